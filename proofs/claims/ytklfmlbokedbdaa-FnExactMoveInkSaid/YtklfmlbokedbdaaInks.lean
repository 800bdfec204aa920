/-
  Proved: what the functions that measure, copy and compare ink return (contracts of callees of the laws on ink).
  Conditions: the ink's points are read out of the argument's memory.
-/
import Derived.Test.YtklfmlbokedbdaaValid
namespace Go.Proofs.Ytklfmlbokedbdaa.inks
open Go.ChangeShapes Go.WideShapes Go.ChangeAt Go.RowKit Go.Joins
open Go.Proofs.Ytklfmlbokedbdaa.join Go.Proofs.Ytklfmlbokedbdaa.strokes Go.Proofs.Ytklfmlbokedbdaa.valid
set_option linter.unusedVariables false

/-- A world in which all that was there in w reads as it did. -/
structure Kept (w : World) where
  world : World
  below : Below w.heap.size w world
instance keptInhabited (w : World) : Inhabited (Kept w) := ⟨⟨w, Below.refl _ _⟩⟩
theorem wp_region_quiet_kept {P : Program} {id : Nat} {Q : Exit → Act → World → Prop} {a : Act} {w : World} {l : List Oper} (hm : P.follows .mixedOrders = true) (hB : Region.lexB .any l.toArray = true)
    (h : wpQuiet P l.toArray (fun w' => ∃ p : Kept w, w' = p.world) (fun a' => ∀ w', (∃ p : Kept w, w' = p.world) → Q .normal a' w') l a) : (Code.region id l.toArray true).wp P Q a w :=
  wp_region_quiet (C := fun w' => ∃ p : Kept w, w' = p.world) hm hB ⟨⟨w.drew, (Below.refl _ _).drew⟩, rfl⟩ (by simpa using h)
theorem cell_kept {w : World} {a : Addr} {v : Value} (hb : a.block < w.heap.size) (h : w.cell? a = some v) (p : Kept w) : p.world.cell? a = some v := (p.below.cell hb).trans h
theorem Calls.kept_of {P : Program} {f : FuncId} {args : Array Value} {w : World} {p : Kept w} {v : Value}
    (h : Calls P f args p.world fun e w' => e = .returned v ∧ Below p.world.heap.size p.world w') : Calls P f args p.world fun e w'' => e = .returned v ∧ ∃ q : Kept w, w'' = q.world :=
  h.mono fun _ w' ⟨he, hb⟩ => ⟨he, ⟨w', p.below.trans (hb.mono p.below.size)⟩, rfl⟩
theorem kept_lt {w : World} {g : Nat} (h : g < w.heap.size) (p : Kept w) : g < p.world.heap.size := Nat.lt_of_lt_of_le h p.below.size

/-- The strokes that a slice of the argument's memory reads as. -/
def ArgRows (w : World) (A : Option Addr) (ink : List (List P3)) : Prop :=
  ∀ (i : Nat) (pts : List P3), ink[i]? = some pts → ∃ (b o : Nat) (B : Option Addr) (c : Nat), A = some ⟨b, o, none⟩ ∧ b < w.heap.size ∧ w.cell? ⟨b, o + i, none⟩ = some (.slice B pts.length c) ∧ pts.length ≤ maxLen ∧ ArgPts w B pts
theorem ArgRows.below {w w' : World} {A : Option Addr} {ink : List (List P3)} (h : ArgRows w A ink) (hb : Below w.heap.size w w') : ArgRows w' A ink := fun i pts hi => by
  obtain ⟨b, o, B, c, rfl, hlt, h1, h2, h3⟩ := h i pts hi
  exact ⟨b, o, B, c, rfl, Nat.lt_of_lt_of_le hlt hb.size, (hb.cell hlt).trans h1, h2, h3.below hb⟩

/-- Block G holds the strokes, a slice each. -/
def RowsFrom (base : Nat) (w : World) (G : Nat) (ink : List (List P3)) : Prop :=
  ∀ (i : Nat) (pts : List P3), ink[i]? = some pts → ∃ g c, base ≤ g ∧ g < w.heap.size ∧ w.cell? ⟨G, i, none⟩ = some (.slice (some ⟨g, 0, none⟩) pts.length c) ∧ Pts w g pts
abbrev Rows (w : World) (G : Nat) (ink : List (List P3)) : Prop := RowsFrom 0 w G ink
theorem RowsFrom.zero {base : Nat} {w : World} {G : Nat} {ink : List (List P3)} (h : RowsFrom base w G ink) : Rows w G ink := fun i pts hi => by
  obtain ⟨g, c, _, h1⟩ := h i pts hi
  exact ⟨g, c, Nat.zero_le _, h1⟩
theorem RowsFrom.below {base : Nat} {w w' : World} {G : Nat} {ink : List (List P3)} (h : RowsFrom base w G ink) (hb : Below w.heap.size w w') (hG : G < w.heap.size) : RowsFrom base w' G ink := fun i pts hi => by
  obtain ⟨g, c, hl, hg, h1, h2⟩ := h i pts hi
  exact ⟨g, c, hl, Nat.lt_of_lt_of_le hg hb.size, (hb.cell hG).trans h1, h2.below hb hg⟩

theorem szStrokeL_calls (A : Option Addr) (n cap : Nat) (L : Nat) (w : World) (hcap : n ≤ 9223372036854775807) (hL : L ≤ 1048576) :
    Calls Try.prog 14 #[.agg #[.slice A n cap], .int .i64 (L : Int)] w fun e w' => e = .returned (.int .i64 (if n ≤ L then (L : Int) - (n : Int) else -1)) ∧ Below w.heap.size w w' := by
  by_cases h : n ≤ L
  · have h' : ¬ ((L : Int) - (n : Int) < 0) := by omega
    go_enter Try.func14, Try.ntmps14
    go_wp2
    go_ret
    exact ⟨rfl, below_alloc1 _ _⟩
  · have h' : (L : Int) - (n : Int) < 0 := by omega
    go_enter Try.func14, Try.ntmps14
    go_wp2
    go_ret
    exact ⟨rfl, below_alloc1 _ _⟩

/-- What is left of the budget: nothing, or all strokes are small. -/
def Budget (ink : List (List P3)) (r : Int) : Prop := r = -1 ∨ ∃ L : Nat, r = (L : Int) ∧ L ≤ 1048576 ∧ ink.length ≤ 1048576 ∧ ∀ pts ∈ ink, pts.length ≤ 1048576

set_option maxRecDepth 100000 in
set_option maxHeartbeats 2000000 in
theorem szStrokeS_calls (A : Option Addr) (n cap : Nat) (L : Nat) (ink : List (List P3)) (w : World) (hn : ink.length = n) (hmx : n ≤ maxLen) (hL : L ≤ 1048576) (hp : ArgRows w A ink) :
    Calls Try.prog 52 #[.slice A n cap, .int .i64 (L : Int)] w fun e w' => ∃ r, e = .returned (.int .i64 r) ∧ Budget ink r ∧ Below w.heap.size w w' := by
  have HN := Lib.hid hn
  have HP := Lib.hid hp
  clear hn hp
  have hmx' : n ≤ 9223372036854775807 := by unfold maxLen at hmx; omega
  clear hmx
  by_cases h0 : n ≤ L
  · have h0' : ¬ ((L : Int) - (n : Int) < 0) := by omega
    go_enter Try.func52, Try.ntmps52
    go_wp2
    go_loopw [5, 1] (fun i l w' => ∃ k M : Nat, k ≤ n ∧ M ≤ 1048576 ∧ i = .int .i64 (k : Int) ∧ l = .int .i64 (M : Int) ∧ Hid (∀ j pts, j < k → ink[j]? = some pts → pts.length ≤ 1048576) ∧ Hid (Below w.heap.size w w')) (fun i _ _ => n - (intOf i).toNat)
    case atStart => exact ⟨0, L - n, Nat.zero_le _, by omega, rfl, by congr 1; omega, Lib.hid fun j pts hj => absurd hj (by omega), Lib.hid (Below.refl _ _)⟩
    case round =>
      obtain ⟨k, M, hk, hM, rfl, rfl, HA, HB⟩ := hrel
      by_cases hlt : k < n
      · have hkl : k < ink.length := by rw [HN.out]; exact hlt
        obtain ⟨b, o, B, c, rfl, hbl, p0, hml, -⟩ := HP.out k ink[k] (List.getElem?_eq_getElem hkl)
        generalize hpk : ink[k] = pts at p0 hml
        have HK := Lib.hid (show ink[k]? = some pts by rw [List.getElem?_eq_getElem hkl, hpk])
        clear hpk
        have q0 := (HB.out.cell (p := ⟨b, o + k, none⟩) hbl).trans p0
        clear p0
        go_wp2_with fail
        refine (szStrokeL_calls B pts.length c M _ (by unfold maxLen at hml; omega) hM).mono ?_
        rintro e w2 ⟨rfl, hb2⟩
        have HB2 := Lib.hid (HB.out.trans (hb2.mono HB.out.size))
        clear hb2 q0
        by_cases hl : pts.length ≤ M
        · obtain ⟨M', hM'⟩ : ∃ M' : Nat, M' = M - pts.length := ⟨_, rfl⟩
          have e : (if pts.length ≤ M then (M : Int) - (pts.length : Int) else -1) = (M' : Int) := by rw [if_pos hl]; omega
          rw [e]
          have HA2 := Lib.hid (show ∀ j q, j < k + 1 → ink[j]? = some q → q.length ≤ 1048576 from fun j q hj hq => by
            rcases Nat.lt_or_ge j k with h' | h'
            · exact HA.out j q h' hq
            · obtain rfl : j = k := by omega
              rw [HK.out] at hq
              injection hq with hq
              subst hq
              omega)
          clear e
          have hM2 : M' ≤ 1048576 := by omega
          clear hM'
          go_wp2
          go_roundw
          case rel => exact ⟨k + 1, M', by omega, hM2, by go_num, rfl, HA2, HB2⟩
          case measure => simp [intOf]; omega
        · rw [if_neg hl]
          go_wp2
          go_ret
          exact ⟨_, rfl, Or.inl rfl, HB2.out⟩
      · have HR := Lib.hid (show Budget ink (M : Int) from Or.inr ⟨M, rfl, hM, by rw [HN.out]; omega, fun pts hp => by
          obtain ⟨j, hj⟩ := List.getElem?_of_mem hp
          have : j < ink.length := (List.getElem?_eq_some_iff.1 hj).1
          exact HA.out j pts (by rw [HN.out] at this; omega) hj⟩)
        go_wp2
        go_ret
        exact ⟨_, rfl, HR.out, HB.out⟩
  · have h0' : (L : Int) - (n : Int) < 0 := by omega
    go_enter Try.func52, Try.ntmps52
    go_wp2
    go_ret
    exact ⟨_, rfl, Or.inl rfl, Below.refl _ _⟩

set_option maxHeartbeats 1000000 in
theorem szInk_calls (A : Option Addr) (n cap : Nat) (L : Nat) (ink : List (List P3)) (w : World) (hn : ink.length = n) (hmx : n ≤ maxLen) (hL : L ≤ 1048576) (hp : ArgRows w A ink) :
    Calls Try.prog 19 #[.agg #[.slice A n cap], .int .i64 (L : Int)] w fun e w' => ∃ r, e = .returned (.int .i64 r) ∧ Budget ink r ∧ Below w.heap.size w w' := by
  go_enter Try.func19, Try.ntmps19
  go_wp2_with fail
  refine (szStrokeS_calls A n cap L ink _ hn hmx hL (hp.below (below_alloc1 _ _))).mono ?_
  rintro e w1 ⟨r, rfl, hr, hb⟩
  have HB := Lib.hid ((below_alloc1 w _).trans (hb.mono (below_alloc1 w _).size))
  clear hb hn hp
  rcases hr with rfl | ⟨M, rfl, hM, h1, h2⟩
  · go_wp2
    go_ret
    exact ⟨_, rfl, Or.inl rfl, HB.out⟩
  · have HR := Lib.hid (show Budget ink (M : Int) from Or.inr ⟨M, rfl, hM, h1, h2⟩)
    clear h1 h2
    go_wp2
    go_ret
    exact ⟨_, rfl, HR.out, HB.out⟩

/-- What a round of the copying loop finds: the new row has its first k strokes, each with points of its own. -/
structure CopyS (w : World) (n : Nat) (ink : List (List P3)) (k : Nat) (w' : World) : Prop where
  below : Below w.heap.size w w'
  row : ∃ cur : Array Value, w'.heap[w.heap.size]? = some (.cells cur 29 (0, 0)) ∧ cur.size = n ∧
    ∀ (i : Nat) (pts : List P3), i < k → ink[i]? = some pts → ∃ g, w.heap.size < g ∧ g < w'.heap.size ∧ cur[i]? = some (.slice (some ⟨g, 0, none⟩) pts.length pts.length) ∧ Pts w' g pts
theorem CopyS.lt {w : World} {n : Nat} {ink : List (List P3)} {k : Nat} {w' : World} (h : CopyS w n ink k w') : w.heap.size < w'.heap.size := by
  obtain ⟨cur, hc, _⟩ := h.row
  exact (Array.getElem?_eq_some_iff.1 hc).1
theorem CopyS.at_ {w : World} {n : Nat} {ink : List (List P3)} {k : Nat} {w' : World} (h : CopyS w n ink k w') (hk : k < n) :
    (∃ v0, w'.cell? ⟨w.heap.size, k, none⟩ = some v0) ∧ ∀ o, w'.frozen? ⟨w.heap.size, o, none⟩ = false := by
  obtain ⟨cur, hc, hs, _⟩ := h.row
  refine ⟨⟨cur[k]'(by omega), ?_⟩, unfrozen_of_block hc⟩
  rw [cell_of_block hc]; exact Array.getElem?_eq_getElem _
theorem CopyS.kept {w : World} {n : Nat} {ink : List (List P3)} {k : Nat} {w' w2 : World} (h : CopyS w n ink k w') (hb : Below w'.heap.size w' w2) : CopyS w n ink k w2 := by
  obtain ⟨cur, hc, hs, hp⟩ := h.row
  refine ⟨h.below.trans (hb.mono h.below.size), cur, (hb.block _ h.lt).trans hc, hs, fun i pts hi hpi => ?_⟩
  obtain ⟨g, h1, h2, h3, h4⟩ := hp i pts hi hpi
  exact ⟨g, h1, Nat.lt_of_lt_of_le h2 hb.size, h3, h4.below hb h2⟩
theorem CopyS.step {w : World} {n : Nat} {ink : List (List P3)} {k : Nat} {w2 : World} (h : CopyS w n ink k w2) (hk : k < n) (pts : List P3) (hp : ink[k]? = some pts) (g : Nat) (h1 : w.heap.size < g) (h2 : g < w2.heap.size) (hpt : Pts w2 g pts) :
    CopyS w n ink (k + 1) (w2.setCell ⟨w.heap.size, k, none⟩ (.slice (some ⟨g, 0, none⟩) pts.length pts.length)) := by
  obtain ⟨cur, hc, hs, hall⟩ := h.row
  have s1 := block_setCell (i := k) hc (.slice (some ⟨g, 0, none⟩) pts.length pts.length)
  refine ⟨h.below.setCell (Nat.le_refl _) _, _, s1, by simp [hs], ?_⟩
  intro i q hi hq
  by_cases e : i = k
  · subst e
    obtain rfl : pts = q := by rw [hp] at hq; injection hq
    refine ⟨g, h1, by simpa [World.setCell] using h2, ?_, hpt.far (by omega) _⟩
    simp [Array.getElem?_setIfInBounds]
    omega
  · obtain ⟨g', a1, a2, a3, a4⟩ := hall i q (by omega) hq
    refine ⟨g', a1, by simpa [World.setCell] using a2, ?_, a4.far (by omega) _⟩
    rw [Array.getElem?_setIfInBounds_ne (by omega)]
    exact a3
theorem CopyS.rows {w : World} {n : Nat} {ink : List (List P3)} {k : Nat} {w' : World} (h : CopyS w n ink k w') (hk : ink.length ≤ k) : RowsFrom w.heap.size w' w.heap.size ink := by
  obtain ⟨cur, hc, hs, hp⟩ := h.row
  intro i pts hi
  have hlt : i < ink.length := (List.getElem?_eq_some_iff.1 hi).1
  obtain ⟨g, h1, h2, h3, h4⟩ := hp i pts (by omega) hi
  exact ⟨g, pts.length, Nat.le_of_lt h1, h2, by rw [cell_of_block hc]; exact h3, h4⟩

theorem infoStroke : (Try.prog.info? 29).map (fun i => (i.zero, i.size, i.bytes)) = some (some (.agg #[.slice none 0 0]), 1, 24) := by kernel_rfl
theorem make_strokes (n : Nat) (hn : n ≤ 1048576) (w : World) : ∃ cur : Array Value, cur.size = n ∧
    (Instr.makeSlice 38 (.int .i64 (n : Int)) (.int .i64 (n : Int))).run Try.prog w = .ok (.slice (some ⟨w.heap.size, 0, none⟩) n n) (w.alloc (.cells cur 29)) := by
  obtain ⟨i0, hi, hz0, hz1, hz2⟩ := info_parts infoStroke
  have hr := run_make (P := Try.prog) w 38 29 i0 _ Try.underlying38 hi hz0 .i64 .i64 n n (by omega) (by omega) (by rw [hz2]; omega) (by omega)
  simp only [Int.toNat_natCast] at hr
  refine ⟨_, ?_, hr⟩
  rw [hz1]
  simp [madeCells]

set_option maxRecDepth 100000 in
set_option maxHeartbeats 2000000 in
theorem toStrokeS_calls (A : Option Addr) (n cap : Nat) (ink : List (List P3)) (w : World) (hn : ink.length = n) (hcap : n ≤ 1048576) (hsm : ∀ pts ∈ ink, pts.length ≤ 1048576) (hp : ArgRows w A ink) :
    Calls Try.prog 54 #[.slice A n cap] w fun e w' => ∃ G, e = .returned (.slice (some ⟨G, 0, none⟩) n n) ∧ w.heap.size ≤ G ∧ G < w'.heap.size ∧ RowsFrom w.heap.size w' G ink ∧ Below w.heap.size w w' := by
  have HN := Lib.hid hn
  have HP := Lib.hid hp
  have HM := Lib.hid hsm
  clear hn hp hsm
  obtain ⟨cur, hcs, hmk⟩ := make_strokes n hcap w
  have HC := Lib.hid hcs
  clear hcs
  go_enter Try.func54, Try.ntmps54
  go_wp2
  go_loopw [4] (fun i w' => ∃ k : Nat, k ≤ n ∧ i = .int .i64 k ∧ Hid (CopyS w n ink k w')) (fun i _ => n - (intOf i).toNat)
  case atStart => exact ⟨0, Nat.zero_le _, rfl, Lib.hid ⟨below_alloc1 _ _, cur, heap_alloc_new w _, HC.out, fun i p hi => absurd hi (by omega)⟩⟩
  case round =>
    obtain ⟨k, hk, rfl, HG⟩ := hrel
    clear hmk
    by_cases hlt : k < n
    · have hkl : k < ink.length := by rw [HN.out]; exact hlt
      obtain ⟨b, o, B, c, rfl, hbl, p0, hml, hap⟩ := HP.out k ink[k] (List.getElem?_eq_getElem hkl)
      have hsm := HM.out ink[k] (List.getElem_mem hkl)
      generalize hpk : ink[k] = pts at p0 hml hap hsm
      have HK := Lib.hid (show ink[k]? = some pts by rw [List.getElem?_eq_getElem hkl, hpk])
      clear hpk hml
      have q0 := (HG.out.below.cell (p := ⟨b, o + k, none⟩) hbl).trans p0
      have HAP := Lib.hid (hap.below HG.out.below)
      clear p0 hap
      go_wp2_with fail
      refine (toStroke_calls B pts.length c pts _ rfl hsm HAP.out).mono ?_
      rintro e w2 ⟨g, rfl, hg0, hg1, hpt, hb2⟩
      have HG2 := Lib.hid (HG.out.kept hb2)
      have HPT := Lib.hid hpt
      have hg2 : w.heap.size < g := by have := HG.out.lt; omega
      clear hb2 q0 hpt hg0 HG
      obtain ⟨⟨v0, c0⟩, hfz⟩ := HG2.out.at_ hlt
      go_wp2
      go_roundw
      case rel => exact ⟨k + 1, by omega, by go_num, Lib.hid (HG2.out.step hlt pts HK.out g hg2 hg1 HPT.out)⟩
      case measure => simp [intOf]; omega
    · go_wp2
      go_ret
      exact ⟨_, rfl, Nat.le_refl _, HG.out.lt, HG.out.rows (by rw [HN.out]; omega), HG.out.below⟩

abbrev inkV (G n : Nat) : Value := .agg #[.slice (some ⟨G, 0, none⟩) n n]
theorem RowsFrom.far {base : Nat} {w : World} {G : Nat} {ink : List (List P3)} (h : RowsFrom base w G ink) {b i : Nat} (hb : b < base) (hG : base ≤ G) (v : Value) : RowsFrom base (w.setCell ⟨b, i, none⟩ v) G ink := fun j pts hj => by
  obtain ⟨g, c, hl, hg, h1, h2⟩ := h j pts hj
  refine ⟨g, c, hl, by simpa [World.setCell] using hg, ?_, h2.far (by omega) v⟩
  rw [World.cell?_setCell_far w ⟨b, i, none⟩ _ v (show b ≠ G by omega)]
  exact h1
theorem RowsFrom.mono {base base' : Nat} {w : World} {G : Nat} {ink : List (List P3)} (h : RowsFrom base w G ink) (hb : base' ≤ base) : RowsFrom base' w G ink := fun j pts hj => by
  obtain ⟨g, c, hl, h1⟩ := h j pts hj
  exact ⟨g, c, by omega, h1⟩

set_option maxHeartbeats 1000000 in
theorem toInk_calls (A : Option Addr) (n cap : Nat) (ink : List (List P3)) (w : World) (hn : ink.length = n) (hcap : n ≤ 1048576) (hsm : ∀ pts ∈ ink, pts.length ≤ 1048576) (hp : ArgRows w A ink) :
    Calls Try.prog 21 #[.agg #[.slice A n cap]] w fun e w' => ∃ G, e = .returned (inkV G n) ∧ w.heap.size ≤ G ∧ G < w'.heap.size ∧ RowsFrom w.heap.size w' G ink ∧ Below w.heap.size w w' := by
  have HN := Lib.hid hn
  have HP := Lib.hid hp
  have HM := Lib.hid hsm
  clear hn hp hsm
  go_enter Try.func21, Try.ntmps21
  go_wp2_with fail
  refine (toStrokeS_calls A n cap ink _ HN.out hcap HM.out (HP.out.below (below_alloc3 _ _ _ _))).mono ?_
  rintro e w1 ⟨G, rfl, hg0, hg1, hpt, hb⟩
  have HPT := Lib.hid hpt
  have hz := hb.size
  simp at hz hg0
  have lz : w.heap.size + 1 + 1 < w1.heap.size := by omega
  have lz1 : w.heap.size + 1 < w1.heap.size := by omega
  obtain ⟨hc, hf⟩ : (∀ b o, b < w.heap.size + 1 + 1 + 1 → w1.cell? ⟨b, o, none⟩ = (((w.alloc (.cells #[.slice A n cap] 35)).alloc (.cells #[.slice none 0 0] 40)).alloc (.cells #[.slice none 0 0] 40)).cell? ⟨b, o, none⟩) ∧ (∀ b o, b < w.heap.size + 1 + 1 + 1 → w1.frozen? ⟨b, o, none⟩ = (((w.alloc (.cells #[.slice A n cap] 35)).alloc (.cells #[.slice none 0 0] 40)).alloc (.cells #[.slice none 0 0] 40)).frozen? ⟨b, o, none⟩) :=
    ⟨fun b o h => hb.cell (p := ⟨b, o, none⟩) (by simpa using h), fun b o h => hb.frozen (p := ⟨b, o, none⟩) (by simpa using h)⟩
  have HB := Lib.hid ((below_alloc3 w _ _ _).trans (hb.mono (below_alloc3 w _ _ _).size))
  clear hb hpt hz
  have r1 : w.heap.size + 1 < w.heap.size + 1 + 1 + 1 := by omega
  have r2 : w.heap.size + 1 + 1 < w.heap.size + 1 + 1 + 1 := by omega
  go_wp2
  refine bodyPost_ret (v := inkV G n) (by simp [results, Try.results21, go_sem, hc]) rfl ⟨G, rfl, by omega, by simpa [World.setCell] using hg1, ?_, (HB.out.setCell (show w.heap.size ≤ w.heap.size + 1 + 1 by omega) _).setCell (show w.heap.size ≤ w.heap.size + 1 by omega) _⟩
  refine RowsFrom.mono (base := (((w.alloc (.cells #[.slice A n cap] 35)).alloc (.cells #[.slice none 0 0] 40)).alloc (.cells #[.slice none 0 0] 40)).heap.size) ?_ (by simp; omega)
  exact (HPT.out.far (by simp) (by simpa using hg0) _).far (by simp) (by simpa using hg0) _

set_option maxHeartbeats 1000000 in
theorem eqStroke_sameC (g g' n c c' : Nat) (pts : List P3) (w : World) (hn : pts.length = n) (hcap : n ≤ 1048576) (hg : g < w.heap.size) (hg' : g' < w.heap.size) (hp : Pts w g pts) (hp' : Pts w g' pts) :
    Calls Try.prog 18 #[.agg #[.slice (some ⟨g, 0, none⟩) n c], .agg #[.slice (some ⟨g', 0, none⟩) n c']] w fun e w' => e = .returned (.bool true) ∧ Below w.heap.size w w' := by
  have HN := Lib.hid hn
  have HP := Lib.hid (hp.below (below_alloc2 w (.cells #[.slice (some ⟨g, 0, none⟩) n c] 29) (.cells #[.slice (some ⟨g', 0, none⟩) n c'] 29)) hg)
  have HP' := Lib.hid (hp'.below (below_alloc2 w (.cells #[.slice (some ⟨g, 0, none⟩) n c] 29) (.cells #[.slice (some ⟨g', 0, none⟩) n c'] 29)) hg')
  clear hn hp hp'
  go_enter Try.func18, Try.ntmps18
  go_wp2_with fail
  refine (eqPointS_same g g' n c c' pts _ HN.out hcap (by simp; omega) (by simp; omega) HP.out HP'.out).mono ?_
  rintro e w1 ⟨rfl, hb⟩
  have HB := Lib.hid ((below_alloc2 w _ _).trans (hb.mono (below_alloc2 w _ _).size))
  clear hb
  go_wp2
  go_ret
  exact ⟨rfl, HB.out⟩

set_option maxRecDepth 100000 in
set_option maxHeartbeats 2000000 in
theorem eqStrokeS_same (G G' n c c' : Nat) (ink : List (List P3)) (w : World) (hn : ink.length = n) (hcap : n ≤ 1048576) (hsm : ∀ pts ∈ ink, pts.length ≤ 1048576) (hg : G < w.heap.size) (hg' : G' < w.heap.size) (hp : Rows w G ink) (hp' : Rows w G' ink) :
    Calls Try.prog 56 #[.slice (some ⟨G, 0, none⟩) n c, .slice (some ⟨G', 0, none⟩) n c'] w fun e w' => e = .returned (.bool true) ∧ Below w.heap.size w w' := by
  have HN := Lib.hid hn
  have HP := Lib.hid hp
  have HP' := Lib.hid hp'
  have HM := Lib.hid hsm
  clear hn hp hp' hsm
  have hm := mixed
  go_enter Try.func56, Try.ntmps56
  go_wp2
  go_loopw [5] (fun i w' => ∃ k : Nat, k ≤ n ∧ i = .int .i64 k ∧ Hid (Below w.heap.size w w')) (fun i _ => n - (intOf i).toNat)
  case atStart => exact ⟨0, Nat.zero_le _, rfl, Lib.hid (Below.refl _ _)⟩
  case round =>
    obtain ⟨k, hk, rfl, HB⟩ := hrel
    by_cases hlt : k < n
    · have hkl : k < ink.length := by rw [HN.out]; exact hlt
      obtain ⟨g, d, -, hgl, p0, hpt⟩ := HP.out k ink[k] (List.getElem?_eq_getElem hkl)
      obtain ⟨g', d', -, hgl', p0', hpt'⟩ := HP'.out k ink[k] (List.getElem?_eq_getElem hkl)
      have hsm := HM.out ink[k] (List.getElem_mem hkl)
      generalize ink[k] = pts at p0 hpt p0' hpt' hsm
      have hG : G < wr.heap.size := Nat.lt_of_lt_of_le hg HB.out.size
      have hG' : G' < wr.heap.size := Nat.lt_of_lt_of_le hg' HB.out.size
      have HPT := Lib.hid (hpt.below HB.out hgl)
      have HPT' := Lib.hid (hpt'.below HB.out hgl')
      have hgz : g < wr.heap.size := Nat.lt_of_lt_of_le hgl HB.out.size
      have hgz' : g' < wr.heap.size := Nat.lt_of_lt_of_le hgl' HB.out.size
      have q0 := cell_kept (a := ⟨G, k, none⟩) hG ((HB.out.cell (p := ⟨G, k, none⟩) hg).trans p0)
      have q1 := cell_kept (a := ⟨G', k, none⟩) hG' ((HB.out.cell (p := ⟨G', k, none⟩) hg').trans p0')
      clear p0 p0' hpt hpt'
      have hli : (k : Int) < (n : Int) := by omega
      go_wp2
      refine wp_region_quiet_kept (by assumption) (by kernel_rfl) ?_
      repeat (first | go_big_quiet_step ((go_at_call 18; exact Calls.kept_of (eqStroke_sameC g g' pts.length d d' pts _ rfl hsm (kept_lt hgz _) (kept_lt hgz' _) (HPT.out.below (Kept.below _) hgz) (HPT'.out.below (Kept.below _) hgz')))) | quiet_step ((go_at_call 18; exact Calls.kept_of (eqStroke_sameC g g' pts.length d d' pts _ rfl hsm (kept_lt hgz _) (kept_lt hgz' _) (HPT.out.below (Kept.below _) hgz) (HPT'.out.below (Kept.below _) hgz')))))
      refine wpQuiet_nil ?_
      intro _ hw'
      obtain ⟨⟨w2, hb2⟩, hw''⟩ := hw'
      subst hw''
      have HB2 := Lib.hid (HB.out.trans (hb2.mono HB.out.size))
      clear hb2 q0 q1 hli
      go_wp2
      go_roundw
      case rel => exact ⟨k + 1, by omega, by go_num, HB2⟩
      case measure => simp [intOf]; omega
    · go_wp2
      go_ret
      exact ⟨rfl, HB.out⟩

set_option maxHeartbeats 1000000 in
theorem eqInk_same (G G' n c c' : Nat) (ink : List (List P3)) (w : World) (hn : ink.length = n) (hcap : n ≤ 1048576) (hsm : ∀ pts ∈ ink, pts.length ≤ 1048576) (hg : G < w.heap.size) (hg' : G' < w.heap.size) (hp : Rows w G ink) (hp' : Rows w G' ink) :
    Calls Try.prog 23 #[.agg #[.slice (some ⟨G, 0, none⟩) n c], .agg #[.slice (some ⟨G', 0, none⟩) n c']] w fun e w' => e = .returned (.bool true) ∧ Below w.heap.size w w' := by
  have HN := Lib.hid hn
  have HM := Lib.hid hsm
  have HP := Lib.hid (hp.below (below_alloc2 w (.cells #[.slice (some ⟨G, 0, none⟩) n c] 40) (.cells #[.slice (some ⟨G', 0, none⟩) n c'] 40)) hg)
  have HP' := Lib.hid (hp'.below (below_alloc2 w (.cells #[.slice (some ⟨G, 0, none⟩) n c] 40) (.cells #[.slice (some ⟨G', 0, none⟩) n c'] 40)) hg')
  clear hn hp hp' hsm
  go_enter Try.func23, Try.ntmps23
  go_wp2_with fail
  refine (eqStrokeS_same G G' n c c' ink _ HN.out hcap HM.out (by simp; omega) (by simp; omega) HP.out HP'.out).mono ?_
  rintro e w1 ⟨rfl, hb⟩
  have HB := Lib.hid ((below_alloc2 w _ _).trans (hb.mono (below_alloc2 w _ _).size))
  clear hb
  go_wp2
  go_ret
  exact ⟨rfl, HB.out⟩
end Go.Proofs.Ytklfmlbokedbdaa.inks
