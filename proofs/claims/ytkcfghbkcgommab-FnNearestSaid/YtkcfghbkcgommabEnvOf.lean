/-
  Proved: what the document's function that builds an envelope returns.
  Conditions: the list is a sequence, the number of elements and the band are those of sequences.
-/
import Derived.Test.YtkcfghbkcgommabEnvS
import Derived.Test.YtkcfghbkcgommabTabD
namespace Go.Proofs.Ytkcfghbkcgommab.env
open Go.ChangeShapes Go.WideShapes Go.ChangeAt Go.RowKit Go.Joins
open Go.Proofs.Ytkcfghbkcgommab.core Go.Proofs.Ytkcfghbkcgommab.rown Go.Proofs.Ytkcfghbkcgommab.stk Go.Proofs.Ytkcfghbkcgommab.boxed Go.Proofs.Ytkcfghbkcgommab.ft Go.Proofs.Ytkcfghbkcgommab.seq Go.Proofs.Ytkcfghbkcgommab.tab
set_option linter.unusedVariables false
set_option linter.unusedSimpArgs false
/-- The numbers of an envelope: least and greatest X, least and greatest Y. -/
def envF (fb : Nat → P3) (m : Nat) (band : Int) : Nat → Nat → Int
  | 0, i => wLo (fun j => vOf false (fb j)) m ((i : Int) - band) ((i : Int) + band)
  | 1, i => wHi (fun j => vOf false (fb j)) m ((i : Int) - band) ((i : Int) + band)
  | 2, i => wLo (fun j => vOf true (fb j)) m ((i : Int) - band) ((i : Int) + band)
  | _, i => wHi (fun j => vOf true (fb j)) m ((i : Int) - band) ((i : Int) + band)
/-- Four rows of numbers, each in memory of its own. -/
structure Four (w : World) (base : Nat) (cnt : Nat → Nat) (s : Nat → Value) (F : Nat → Nat → Int) : Prop where
  own : ∀ k, k < 4 → w.ownsRow base 2 1 (s k) (cnt k) (rws (one (F k)) (cnt k))
  apart : ∀ j k g, j < 4 → k < 4 → j ≠ k → (s j).ownBlock = some g → (s k).ownBlock ≠ some g
def upd {T : Type} (f : Nat → T) (k : Nat) (v : T) : Nat → T := fun j => if j = k then v else f j
theorem Four.push {w w' : World} {base : Nat} {cnt : Nat → Nat} {s : Nat → Value} {F : Nat → Nat → Int} {o : Obj} {k g cap : Nat} {x : Int} (h : Four w base cnt s F) (hk : k < 4) (hx : F k (cnt k) = x)
    (hown : w'.ownsRow base 2 1 (.slice (some ⟨g, 0, none⟩) (cnt k + 1) cap) (cnt k + 1) (rws (one (F k)) (cnt k) ++ [.int .i64 x])) (hgr : (w.alloc o).grownBy w' (s k).ownBlock) (hat : (s k).ownBlock = some g ∨ g = w.heap.size + 1) :
    Four w' base (upd cnt k (cnt k + 1)) (upd s k (.slice (some ⟨g, 0, none⟩) (cnt k + 1) cap)) F := by
  have hb : ∀ j b, j < 4 → (s j).ownBlock = some b → b < w.heap.size := fun j b hj he => by
    obtain ⟨_, cur, hc⟩ := rown.ownsRow_block (h.own j hj) he
    exact (Array.getElem?_eq_some_iff.1 hc).1
  have hg : ∀ j b, j < 4 → j ≠ k → (s j).ownBlock = some b → b ≠ g := fun j b hj hjk he e => by
    subst e
    rcases hat with h' | h'
    · exact h.apart j k b hj hk hjk he h'
    · have := hb j b hj he; omega
  refine ⟨fun j hj => ?_, fun i j b hi hj hij he he2 => ?_⟩
  · unfold upd
    by_cases e : j = k
    · subst e
      rw [if_pos rfl, if_pos rfl, rws_succ]
      unfold one
      rw [hx]
      exact hown
    · rw [if_neg e, if_neg e]
      refine ownsRow_same (h.own j hj) fun b hbb => ?_
      have hlt := hb j b hj hbb
      rw [hgr.block b (by simp; omega) (fun e2 => h.apart j k b hj hk e hbb e2.symm), Below.heap_alloc _ _ _ (by omega)]
  · unfold upd at he he2
    by_cases e1 : i = k
    · rw [if_pos e1] at he
      by_cases e2 : j = k
      · omega
      · rw [if_neg e2] at he2
        have eg : g = b := by simpa [Value.ownBlock] using he
        exact hg j b hj e2 he2 eg.symm
    · rw [if_neg e1] at he
      by_cases e2 : j = k
      · rw [if_pos e2] at he2
        have eg : g = b := by simpa [Value.ownBlock] using he2
        exact hg i b hi e1 he eg.symm
      · rw [if_neg e2] at he2
        exact h.apart i j b hi hj hij he he2
theorem Four.set {w : World} {base : Nat} {cnt : Nat → Nat} {s : Nat → Value} {F : Nat → Nat → Int} {E i : Nat} {v : Value} (h : Four w base cnt s F) (hE : E < base) : Four (w.setCell ⟨E, i, none⟩ v) base cnt s F :=
  ⟨fun k hk => ownsRow_same (h.own k hk) fun b hb => by
    have := (rown.ownsRow_block (h.own k hk) hb).1
    exact Below.heap_setCell _ _ _ _ (by simp; omega), h.apart⟩
theorem Four.kept {w w' : World} {base : Nat} {cnt : Nat → Nat} {s : Nat → Value} {F : Nat → Nat → Int} (h : Four w base cnt s F) (hb : Below w.heap.size w w') : Four w' base cnt s F :=
  ⟨fun k hk => rown.ownsRow_kept (h.own k hk) hb, h.apart⟩
theorem Four.low {w : World} {base base' : Nat} {cnt : Nat → Nat} {s : Nat → Value} {F : Nat → Nat → Int} (h : Four w base cnt s F) (hb : base' ≤ base) : Four w base' cnt s F :=
  ⟨fun k hk => row_low (h.own k hk) hb, h.apart⟩
theorem four0 (w : World) (base : Nat) (F : Nat → Nat → Int) : Four w base (fun _ => 0) (fun _ => .slice none 0 0) F :=
  ⟨fun k hk => World.ownsRow_nil _ _ _ _, fun j k g hj hk hjk he => by simp [Value.ownBlock] at he⟩
theorem one_new {w : World} {a : Value} {E H : Nat} (h : w.heap.size = H) : ∀ j u, [a][j]? = some u → (w.alloc (.cells #[a] E)).cell? ((⟨H, 0, none⟩ : Addr).add j) = some u := by
  subst h
  exact new_cells (l := [a])
/-- The state of the walk: the result's block, the envelope's own block, and its four rows. -/
structure St (w0 w : World) (cnt : Nat → Nat) (s : Nat → Value) (F : Nat → Nat → Int) : Prop where
  blk : w.heap[w0.heap.size + 1]? = some (.cells #[s 0, s 1, s 2, s 3] 77 (0, 0))
  res : w.heap[w0.heap.size]? = some (.cells #[.slice none 0 0, .slice none 0 0, .slice none 0 0, .slice none 0 0] 77 (0, 0))
  four : Four w (w0.heap.size + 2) cnt s F
  le : w0.heap.size + 2 ≤ w.heap.size
  bel : Below w0.heap.size w0 w
theorem St.kept {w0 w w' : World} {cnt : Nat → Nat} {s : Nat → Value} {F : Nat → Nat → Int} (h : St w0 w cnt s F) (hb : Below w.heap.size w w') : St w0 w' cnt s F :=
  ⟨(hb.block _ (by have := h.le; omega)).trans h.blk, (hb.block _ (by have := h.le; omega)).trans h.res, h.four.kept hb, Nat.le_trans h.le hb.size, h.bel.trans (hb.mono h.bel.size)⟩
theorem St.push {w0 w w' : World} {cnt : Nat → Nat} {s : Nat → Value} {F : Nat → Nat → Int} {o : Obj} {k g cap : Nat} {x : Int} (h : St w0 w cnt s F) (hk : k < 4) (hx : F k (cnt k) = x)
    (hown : w'.ownsRow (w0.heap.size + 2) 2 1 (.slice (some ⟨g, 0, none⟩) (cnt k + 1) cap) (cnt k + 1) (rws (one (F k)) (cnt k) ++ [.int .i64 x])) (hgr : (w.alloc o).grownBy w' (s k).ownBlock) (hat : (s k).ownBlock = some g ∨ g = w.heap.size + 1) :
    w'.heap[w0.heap.size + 1]? = some (.cells #[s 0, s 1, s 2, s 3] 77 (0, 0)) ∧ w0.heap.size + 1 < w'.heap.size ∧ St w0 (w'.setCell ⟨w0.heap.size + 1, k, none⟩ (.slice (some ⟨g, 0, none⟩) (cnt k + 1) cap)) (upd cnt k (cnt k + 1)) (upd s k (.slice (some ⟨g, 0, none⟩) (cnt k + 1) cap)) F := by
  have hu : Below (w0.heap.size + 2) w w' := rown.under (h.four.own k hk) h.le hgr
  have hle := h.le
  have hsz := hu.size
  have hE : w'.heap[w0.heap.size + 1]? = some (.cells #[s 0, s 1, s 2, s 3] 77 (0, 0)) := (hu.block _ (by omega)).trans h.blk
  refine ⟨hE, by omega, ?_, ?_, (h.four.push hk hx hown hgr hat).set (by omega), by simpa [World.setCell] using Nat.le_trans h.le hu.size, (h.bel.trans (hu.mono (by omega))).setCell (p := ⟨w0.heap.size + 1, k, none⟩) (show w0.heap.size ≤ w0.heap.size + 1 by omega) _⟩
  · rw [block_setCell hE]
    have : k = 0 ∨ k = 1 ∨ k = 2 ∨ k = 3 := by omega
    rcases this with rfl | rfl | rfl | rfl <;> rfl
  · rw [Below.heap_setCell _ _ _ _ (by simp)]
    exact (hu.block _ (by omega)).trans h.res
theorem St.congr {w0 w : World} {cnt cnt' : Nat → Nat} {s s' : Nat → Value} {F : Nat → Nat → Int} (h : St w0 w cnt s F) (hc : ∀ k, k < 4 → cnt k = cnt' k) (hs : ∀ k, k < 4 → s k = s' k) : St w0 w cnt' s' F := by
  refine ⟨?_, h.res, ⟨fun k hk => ?_, fun j k g hj hk hjk he => ?_⟩, h.le, h.bel⟩
  · rw [← hs 0 (by omega), ← hs 1 (by omega), ← hs 2 (by omega), ← hs 3 (by omega)]; exact h.blk
  · rw [← hs k hk, ← hc k hk]; exact h.four.own k hk
  · rw [← hs j hj] at he
    rw [← hs k hk]
    exact h.four.apart j k g hj hk hjk he
theorem St.cell {w0 w : World} {cnt : Nat → Nat} {s : Nat → Value} {F : Nat → Nat → Int} (h : St w0 w cnt s F) : w.cell? ⟨w0.heap.size + 1, 0, none⟩ = some (s 0) ∧ w.cell? ⟨w0.heap.size + 1, 1, none⟩ = some (s 1) ∧ w.cell? ⟨w0.heap.size + 1, 2, none⟩ = some (s 2) ∧ w.cell? ⟨w0.heap.size + 1, 3, none⟩ = some (s 3) := by
  refine ⟨?_, ?_, ?_, ?_⟩ <;> (rw [cell_of_block h.blk]; rfl)
theorem st0 (w : World) (F : Nat → Nat → Int) : St w ((w.alloc (.cells #[.slice none 0 0, .slice none 0 0, .slice none 0 0, .slice none 0 0] 77)).alloc (.cells #[.slice none 0 0, .slice none 0 0, .slice none 0 0, .slice none 0 0] 77)) (fun _ => 0) (fun _ => .slice none 0 0) F := by
  refine ⟨?_, ?_, four0 _ _ F, by simp, below_alloc2 w _ _⟩
  · have := heap_alloc_new (w.alloc (.cells #[.slice none 0 0, .slice none 0 0, .slice none 0 0, .slice none 0 0] 77)) (.cells #[.slice none 0 0, .slice none 0 0, .slice none 0 0, .slice none 0 0] 77)
    simpa using this
  · rw [Below.heap_alloc _ _ _ (by simp)]; exact heap_alloc_new _ _
theorem kept2 {w w' : World} {A : Option Addr} {n : Nat} {f : Nat → P3} (h : PtsAt w A n f) (hb : Below w.heap.size w w') : PtsAt w' A n f := h.kept hb
theorem infoN : (Try.prog.info? 2).map (fun i => (i.zero, i.size, i.bytes)) = some (some (.int .i64 0), 1, 8) := by kernel_rfl
def pick4 {T : Type} (a b c d : T) (k : Nat) : T := if k = 0 then a else if k = 1 then b else if k = 2 then c else d
set_option maxRecDepth 100000 in
set_option maxHeartbeats 16000000 in
theorem ofS {c : Nat} (B : Option Addr) (m : Nat) (fb : Nat → P3) (n : Nat) (band : Int) (w : World) (hm : m ≤ 72) (hn : n ≤ 72) (hb : 0 ≤ band ∧ band ≤ 72) (hp : PtsAt w B m fb) :
    Calls Try.prog 43 #[.slice B m c, .int .i64 (n : Int), .int .i64 band] w fun e w' => ∃ s : Nat → Value, e = .returned (.agg #[s 0, s 1, s 2, s 3]) ∧ Four w' w.heap.size (fun _ => n) s (envF fb m band) ∧ Below w.heap.size w w' := by
  obtain ⟨i0, hi0, hz0, hz1, hz2⟩ := rown.info_get infoN
  have HP := Lib.hid hp
  obtain ⟨F, hF⟩ : ∃ F, envF fb m band = F := ⟨_, rfl⟩
  have HF := Lib.hid (show ∀ x : Nat, F 0 x = wLo (fun j => vOf false (fb j)) m ((x : Int) - band) ((x : Int) + band) ∧ F 1 x = wHi (fun j => vOf false (fb j)) m ((x : Int) - band) ((x : Int) + band) ∧ F 2 x = wLo (fun j => vOf true (fb j)) m ((x : Int) - band) ((x : Int) + band) ∧ F 3 x = wHi (fun j => vOf true (fb j)) m ((x : Int) - band) ((x : Int) + band) from fun x => by rw [← hF]; exact ⟨rfl, rfl, rfl, rfl⟩)
  rw [hF]
  clear hp hF
  have HR := Lib.hid (fun W hW a b (ha : a ≤ 1048576) ver => rangeS (c := c) B m fb a b ver W (by omega) ha hW)
  go_enter Try.func43, Try.ntmps43
  go_wp2
  go_loopw [8] (fun i w' => ∃ (x : Nat) (a : Nat → Option Addr) (cc : Nat → Nat), x ≤ n ∧ i = .int .i64 (x : Int) ∧ Hid (St w w' (fun _ => x) (fun k => .slice (a k) x (cc k)) F)) (fun i _ => n - (intOf i).toNat)
  case atStart => exact ⟨0, fun _ => none, fun _ => 0, Nat.zero_le _, rfl, Lib.hid (st0 w F)⟩
  case round =>
    obtain ⟨x, a, cc, hx, rfl, HS⟩ := hrel
    by_cases hlt : x < n
    · have hli : (x : Int) < (n : Int) := by omega
      obtain ⟨fr, hfr⟩ : ∃ v, (x : Int) - band = v := ⟨_, rfl⟩
      obtain ⟨to, hto⟩ : ∃ v, (x : Int) + band = v := ⟨_, rfl⟩
      have E1 : IntKind.i64.wrap ((x : Int) - band) = fr := by rw [hfr]; exact IntWalk.i64_in _ (by omega)
      have E2 : IntKind.i64.wrap ((x : Int) + band) = to := by rw [hto]; exact IntWalk.i64_in _ (by omega)
      obtain ⟨y0, y1, y2, y3⟩ := HF.out x
      rw [hfr, hto] at y0 y1 y2 y3
      have hfr2 : fr ≤ 1048576 := by omega
      obtain ⟨x0, hx0⟩ : ∃ v, F 0 x = v := ⟨_, rfl⟩
      obtain ⟨x1, hx1⟩ : ∃ v, F 1 x = v := ⟨_, rfl⟩
      obtain ⟨x2, hx2⟩ : ∃ v, F 2 x = v := ⟨_, rfl⟩
      obtain ⟨x3, hx3⟩ : ∃ v, F 3 x = v := ⟨_, rfl⟩
      have R1 := Lib.hid (fun W hW => HR.out W hW fr to hfr2 false)
      have R2 := Lib.hid (fun W hW => HR.out W hW fr to hfr2 true)
      rw [← y0, ← y1, hx0, hx1] at R1
      rw [← y2, ← y3, hx2, hx3] at R2
      have HX0 := Lib.hid hx0
      have HX1 := Lib.hid hx1
      have HX2 := Lib.hid hx2
      have HX3 := Lib.hid hx3
      have hx1n : x + 1 ≤ n := by omega
      have hms : n - (x + 1) < n - x := by omega
      have Z3 := Lib.hid (show x + 1 ≤ maxLen by simp only [maxLen]; omega)
      have Z4 := Lib.hid (show (x + 1) * 8 ≤ 140737488355328 by omega)
      have hx72 : x ≤ 72 := by omega
      clear hfr hto y0 y1 y2 y3 hx0 hx1 hx2 hx3 hlt hfr2 hx
      have F1 : wrap64 ((x : Int) - band) = fr := by rw [← IntWalk.i64_left]; exact E1
      have F2 : wrap64 ((x : Int) + band) = to := by rw [← IntWalk.i64_left]; exact E2
      go_wp2_with fail
      refine (R1.out wr (HP.out.kept HS.out.bel)).mono ?_
      rintro e w4 ⟨rfl, hb4⟩
      have HS4 := Lib.hid (HS.out.kept hb4)
      clear hb4 HS R1
      go_wp2_with fail
      refine (R2.out w4 (HP.out.kept HS4.out.bel)).mono ?_
      rintro e w5 ⟨rfl, hb5⟩
      have HS0 := Lib.hid (HS4.out.kept hb5)
      obtain ⟨c0, c1, c2, c3⟩ := HS0.out.cell
      have hEl := Nat.lt_of_lt_of_le (Nat.lt_succ_self (w.heap.size + 1)) HS0.out.le
      clear hb5 HS4 R2 E1 E2 F1 F2
      go_wp2_with (first
        | (at_builtin
           have z0 := rown.ownsRow_kept (HS0.out.four.own 0 (by decide)) (below_alloc1 w5 (.cells #[.int .i64 x0] 2))
           have z2 : ∀ u ∈ [Value.int .i64 x0], u.oneCell' = true := (by simp [Value.oneCell'])
           have zh : w5.heap.size = w5.heap.size := (by simp)
           have z5 : w.heap.size + 2 ≤ (w5.alloc (.cells #[.int .i64 x0] 2)).heap.size := Nat.le_trans HS0.out.le (by simp)
           refine wpList_append_lies (w5.alloc (.cells #[.int .i64 x0] 2)) rfl _ _ 32 rfl (w.heap.size + 2) 2 i0 _ 1 8 Try.underlying32 hi0 hz0 hz1 hz2 rfl (by decide) (.slice (a 0) x (cc 0)) x _ rfl z0 ⟨w5.heap.size, 0, none⟩ 1 1 [.int .i64 x0] rfl rfl (one_new zh) z2 (by decide) Z3.out Z4.out z5 _ rfl ?_
           intro g0 cap0 v0 hown hgr hat hlt3
           obtain ⟨hE, hl, hS⟩ := HS0.out.push (k := 0) (by decide) (x := x0) HX0.out hown hgr (hat.imp (fun h => h) (fun e => e.trans (by simp)))
           have HS1 := Lib.hid hS
           have k00 := cell_of_block hE 0
           have k01 := cell_of_block hE 1
           have k02 := cell_of_block hE 2
           have k03 := cell_of_block hE 3
           have u0 := unfrozen_of_block hE 0
           simp at k00 k01 k02 k03
           clear hown hgr hat hlt3 hE hS z0 z2 z5 zh HS0)
        | (at_builtin
           have z0 := rown.ownsRow_kept (HS1.out.four.own 1 (by decide)) (below_alloc1 (v0.setCell ⟨w.heap.size + 1, 0, none⟩ (.slice (some ⟨g0, 0, none⟩) (x + 1) cap0)) (.cells #[.int .i64 x1] 2))
           have z2 : ∀ u ∈ [Value.int .i64 x1], u.oneCell' = true := (by simp [Value.oneCell'])
           have zh : (v0.setCell ⟨w.heap.size + 1, 0, none⟩ (.slice (some ⟨g0, 0, none⟩) (x + 1) cap0)).heap.size = v0.heap.size := (by simp)
           have z5 : w.heap.size + 2 ≤ ((v0.setCell ⟨w.heap.size + 1, 0, none⟩ (.slice (some ⟨g0, 0, none⟩) (x + 1) cap0)).alloc (.cells #[.int .i64 x1] 2)).heap.size := Nat.le_trans HS1.out.le (by simp)
           refine wpList_append_lies ((v0.setCell ⟨w.heap.size + 1, 0, none⟩ (.slice (some ⟨g0, 0, none⟩) (x + 1) cap0)).alloc (.cells #[.int .i64 x1] 2)) rfl _ _ 32 rfl (w.heap.size + 2) 2 i0 _ 1 8 Try.underlying32 hi0 hz0 hz1 hz2 rfl (by decide) (.slice (a 1) x (cc 1)) x _ rfl z0 ⟨v0.heap.size, 0, none⟩ 1 1 [.int .i64 x1] rfl rfl (one_new zh) z2 (by decide) Z3.out Z4.out z5 _ rfl ?_
           intro g1 cap1 v1 hown hgr hat hlt3
           obtain ⟨hE, hl, hS⟩ := HS1.out.push (k := 1) (by decide) (x := x1) HX1.out hown hgr (hat.imp (fun h => h) (fun e => e.trans (by simp)))
           have HS2 := Lib.hid hS
           have k10 := cell_of_block hE 0
           have k11 := cell_of_block hE 1
           have k12 := cell_of_block hE 2
           have k13 := cell_of_block hE 3
           have u1 := unfrozen_of_block hE 1
           simp at k10 k11 k12 k13
           clear hown hgr hat hlt3 hE hS z0 z2 z5 zh HS1)
        | (at_builtin
           have z0 := rown.ownsRow_kept (HS2.out.four.own 2 (by decide)) (below_alloc1 (v1.setCell ⟨w.heap.size + 1, 1, none⟩ (.slice (some ⟨g1, 0, none⟩) (x + 1) cap1)) (.cells #[.int .i64 x2] 2))
           have z2 : ∀ u ∈ [Value.int .i64 x2], u.oneCell' = true := (by simp [Value.oneCell'])
           have zh : (v1.setCell ⟨w.heap.size + 1, 1, none⟩ (.slice (some ⟨g1, 0, none⟩) (x + 1) cap1)).heap.size = v1.heap.size := (by simp)
           have z5 : w.heap.size + 2 ≤ ((v1.setCell ⟨w.heap.size + 1, 1, none⟩ (.slice (some ⟨g1, 0, none⟩) (x + 1) cap1)).alloc (.cells #[.int .i64 x2] 2)).heap.size := Nat.le_trans HS2.out.le (by simp)
           refine wpList_append_lies ((v1.setCell ⟨w.heap.size + 1, 1, none⟩ (.slice (some ⟨g1, 0, none⟩) (x + 1) cap1)).alloc (.cells #[.int .i64 x2] 2)) rfl _ _ 32 rfl (w.heap.size + 2) 2 i0 _ 1 8 Try.underlying32 hi0 hz0 hz1 hz2 rfl (by decide) (.slice (a 2) x (cc 2)) x _ rfl z0 ⟨v1.heap.size, 0, none⟩ 1 1 [.int .i64 x2] rfl rfl (one_new zh) z2 (by decide) Z3.out Z4.out z5 _ rfl ?_
           intro g2 cap2 v2 hown hgr hat hlt3
           obtain ⟨hE, hl, hS⟩ := HS2.out.push (k := 2) (by decide) (x := x2) HX2.out hown hgr (hat.imp (fun h => h) (fun e => e.trans (by simp)))
           have HS3 := Lib.hid hS
           have k20 := cell_of_block hE 0
           have k21 := cell_of_block hE 1
           have k22 := cell_of_block hE 2
           have k23 := cell_of_block hE 3
           have u2 := unfrozen_of_block hE 2
           simp at k20 k21 k22 k23
           clear hown hgr hat hlt3 hE hS z0 z2 z5 zh HS2)
        | (at_builtin
           have z0 := rown.ownsRow_kept (HS3.out.four.own 3 (by decide)) (below_alloc1 (v2.setCell ⟨w.heap.size + 1, 2, none⟩ (.slice (some ⟨g2, 0, none⟩) (x + 1) cap2)) (.cells #[.int .i64 x3] 2))
           have z2 : ∀ u ∈ [Value.int .i64 x3], u.oneCell' = true := (by simp [Value.oneCell'])
           have zh : (v2.setCell ⟨w.heap.size + 1, 2, none⟩ (.slice (some ⟨g2, 0, none⟩) (x + 1) cap2)).heap.size = v2.heap.size := (by simp)
           have z5 : w.heap.size + 2 ≤ ((v2.setCell ⟨w.heap.size + 1, 2, none⟩ (.slice (some ⟨g2, 0, none⟩) (x + 1) cap2)).alloc (.cells #[.int .i64 x3] 2)).heap.size := Nat.le_trans HS3.out.le (by simp)
           refine wpList_append_lies ((v2.setCell ⟨w.heap.size + 1, 2, none⟩ (.slice (some ⟨g2, 0, none⟩) (x + 1) cap2)).alloc (.cells #[.int .i64 x3] 2)) rfl _ _ 32 rfl (w.heap.size + 2) 2 i0 _ 1 8 Try.underlying32 hi0 hz0 hz1 hz2 rfl (by decide) (.slice (a 3) x (cc 3)) x _ rfl z0 ⟨v2.heap.size, 0, none⟩ 1 1 [.int .i64 x3] rfl rfl (one_new zh) z2 (by decide) Z3.out Z4.out z5 _ rfl ?_
           intro g3 cap3 v3 hown hgr hat hlt3
           obtain ⟨hE, hl, hS⟩ := HS3.out.push (k := 3) (by decide) (x := x3) HX3.out hown hgr (hat.imp (fun h => h) (fun e => e.trans (by simp)))
           have HS4 := Lib.hid hS
           have k30 := cell_of_block hE 0
           have k31 := cell_of_block hE 1
           have k32 := cell_of_block hE 2
           have k33 := cell_of_block hE 3
           have u3 := unfrozen_of_block hE 3
           simp at k30 k31 k32 k33
           clear hown hgr hat hlt3 hE hS z0 z2 z5 zh HS3))
      have HS5 := Lib.hid (HS4.out.congr (cnt' := fun _ => x + 1) (s' := fun k => .slice (pick4 (some ⟨g0, 0, none⟩) (some ⟨g1, 0, none⟩) (some ⟨g2, 0, none⟩) (some ⟨g3, 0, none⟩) k) (x + 1) (pick4 cap0 cap1 cap2 cap3 k))
        (fun k hk => by have : k = 0 ∨ k = 1 ∨ k = 2 ∨ k = 3 := (by omega); rcases this with rfl | rfl | rfl | rfl <;> rfl)
        (fun k hk => by have : k = 0 ∨ k = 1 ∨ k = 2 ∨ k = 3 := (by omega); rcases this with rfl | rfl | rfl | rfl <;> rfl))
      go_wp2
      go_roundw
      case rel => exact ⟨x + 1, pick4 (some ⟨g0, 0, none⟩) (some ⟨g1, 0, none⟩) (some ⟨g2, 0, none⟩) (some ⟨g3, 0, none⟩), pick4 cap0 cap1 cap2 cap3, hx1n, by go_num, HS5⟩
      case measure => simp [intOf]; omega
    · have hxn : ¬ (x : Int) < (n : Int) := by omega
      have hxe := Lib.hid (show x = n by omega)
      obtain ⟨c0, c1, c2, c3⟩ := HS.out.cell
      have hEl := Nat.lt_of_lt_of_le (Nat.lt_succ_self (w.heap.size + 1)) HS.out.le
      have hRl : w.heap.size < wr.heap.size := by omega
      have r0 := cell_of_block HS.out.res 0
      have r1 := cell_of_block HS.out.res 1
      have r2 := cell_of_block HS.out.res 2
      have r3 := cell_of_block HS.out.res 3
      simp at r0 r1 r2 r3
      have q0 := unfrozen_of_block HS.out.res 0
      have q1 := unfrozen_of_block HS.out.res 1
      have q2 := unfrozen_of_block HS.out.res 2
      have q3 := unfrozen_of_block HS.out.res 3
      clear hlt hx
      go_wp2
      exact bodyPost_ret (v := .agg #[.slice (a 0) x (cc 0), .slice (a 1) x (cc 1), .slice (a 2) x (cc 2), .slice (a 3) x (cc 3)]) (by simp [results, Try.results43, go_sem, r0, r1, r2, r3]) rfl
        ⟨fun k => .slice (a k) x (cc k), rfl, by
          rw [← hxe.out]
          exact ((((HS.out.four.set (by omega)).set (by omega)).set (by omega)).set (by omega)).low (by omega),
          (((HS.out.bel.setCell (Nat.le_refl _) _).setCell (Nat.le_refl _) _).setCell (Nat.le_refl _) _).setCell (Nat.le_refl _) _⟩
end Go.Proofs.Ytkcfghbkcgommab.env
