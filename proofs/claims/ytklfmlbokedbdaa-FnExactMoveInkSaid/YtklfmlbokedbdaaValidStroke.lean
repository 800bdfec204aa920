/-
  Proved: for every stroke, the call of the law on ValidStroke returns true and leaves its argument as it was.
  Conditions: none beyond the row's own.
-/
import Derived.Test.YtklfmlbokedbdaaValid
import Derived.Deep.DeepCutAuto
namespace Go.Proofs.Ytklfmlbokedbdaa.fnExactValidStroke
open Go.ChangeShapes Go.WideShapes Go.ChangeAt Go.RowKit Go.Joins
open Go.Proofs.Ytklfmlbokedbdaa.join Go.Proofs.Ytklfmlbokedbdaa.strokes Go.Proofs.Ytklfmlbokedbdaa.valid
open Go.Proofs.Ytklfmlbokedbdaa.boxes (own)
set_option linter.unusedVariables false

/-- All that was there before reads as it did. -/
theorem old {W w1 : World} (hb : Below W.heap.size W w1) : (∀ b o, b < W.heap.size → w1.cell? ⟨b, o, none⟩ = W.cell? ⟨b, o, none⟩) ∧ (∀ b o, b < W.heap.size → w1.frozen? ⟨b, o, none⟩ = W.frozen? ⟨b, o, none⟩) :=
  ⟨fun b o h => hb.cell (p := ⟨b, o, none⟩) h, fun b o h => hb.frozen (p := ⟨b, o, none⟩) h⟩

/-- What the law keeps beside the cells that it loads: its argument's points, and those of the copy. -/
structure Inv (w : World) (A : Option Addr) (pts : List P3) (g k : Nat) (W : World) : Prop where
  below : Below w.heap.size w W
  z : w.heap.size < W.heap.size
  kz : k < W.heap.size
  gz : g < W.heap.size
  row : Pts W g pts
  arg : ArgPts W A pts
theorem Inv.kept {w : World} {A : Option Addr} {pts : List P3} {g k : Nat} {W w' : World} (h : Inv w A pts g k W) (hb : Below W.heap.size W w') : Inv w A pts g k w' :=
  ⟨h.below.trans (hb.mono h.below.size), Nat.lt_of_lt_of_le h.z hb.size, Nat.lt_of_lt_of_le h.kz hb.size, Nat.lt_of_lt_of_le h.gz hb.size, h.row.below hb h.gz, h.arg.below hb⟩
theorem keepS {w : World} {A : Option Addr} {pts : List P3} {g k n cap : Nat} {W w' : World} (hb : Below W.heap.size W w') (h : W.cell? ⟨k, 0, none⟩ = some (.slice (some ⟨g, 0, none⟩) n n) ∧ W.cell? ⟨w.heap.size, 0, none⟩ = some (.slice A n cap) ∧ Inv w A pts g k W) :
    w'.cell? ⟨k, 0, none⟩ = some (.slice (some ⟨g, 0, none⟩) n n) ∧ w'.cell? ⟨w.heap.size, 0, none⟩ = some (.slice A n cap) ∧ Inv w A pts g k w' :=
  ⟨(hb.cell (p := ⟨k, 0, none⟩) h.2.2.kz).trans h.1, (hb.cell (p := ⟨w.heap.size, 0, none⟩) h.2.2.z).trans h.2.1, h.2.2.kept hb⟩
theorem drewS {w : World} {A : Option Addr} {pts : List P3} {g k n cap : Nat} {W : World} (h : W.cell? ⟨k, 0, none⟩ = some (.slice (some ⟨g, 0, none⟩) n n) ∧ W.cell? ⟨w.heap.size, 0, none⟩ = some (.slice A n cap) ∧ Inv w A pts g k W) :
    W.drew.cell? ⟨k, 0, none⟩ = some (.slice (some ⟨g, 0, none⟩) n n) ∧ W.drew.cell? ⟨w.heap.size, 0, none⟩ = some (.slice A n cap) ∧ Inv w A pts g k W.drew :=
  ⟨h.1, h.2.1, ⟨h.2.2.below.drew, h.2.2.z, h.2.2.kz, h.2.2.gz, h.2.2.row, h.2.2.arg⟩⟩

section
variable {w : World} {A : Option Addr} {pts : List P3} {g k n cap : Nat} {W : World}
theorem keepArg (h : W.cell? ⟨k, 0, none⟩ = some (.slice (some ⟨g, 0, none⟩) n n) ∧ W.cell? ⟨w.heap.size, 0, none⟩ = some (.slice A n cap) ∧ Inv w A pts g k W) : ArgPts W A pts := h.2.2.arg
theorem keepGz (h : W.cell? ⟨k, 0, none⟩ = some (.slice (some ⟨g, 0, none⟩) n n) ∧ W.cell? ⟨w.heap.size, 0, none⟩ = some (.slice A n cap) ∧ Inv w A pts g k W) : g < W.heap.size := h.2.2.gz
theorem keepRow (h : W.cell? ⟨k, 0, none⟩ = some (.slice (some ⟨g, 0, none⟩) n n) ∧ W.cell? ⟨w.heap.size, 0, none⟩ = some (.slice A n cap) ∧ Inv w A pts g k W) : Pts W g pts := h.2.2.row
theorem keepBelow (h : W.cell? ⟨k, 0, none⟩ = some (.slice (some ⟨g, 0, none⟩) n n) ∧ W.cell? ⟨w.heap.size, 0, none⟩ = some (.slice A n cap) ∧ Inv w A pts g k W) : Below w.heap.size w W := h.2.2.below
end

set_option maxRecDepth 100000 in
set_option maxHeartbeats 2000000 in
theorem walk_small (A : Option Addr) (n cap : Nat) (pts : List P3) (w : World) (hn : pts.length = n) (hcap : n ≤ 1048576) (hp : ArgPts w A pts) :
    Calls Try.prog 3 #[.agg #[.slice A n cap]] w fun e w' => e = .returned (.bool true) ∧ Below w.heap.size w w' := by
  have HN := Lib.hid hn
  have HP := Lib.hid hp
  clear hn hp
  have hif : (if n ≤ 1048576 then 1048576 - (n : Int) else -1) = 1048576 - (n : Int) := if_pos hcap
  have HI := Lib.hid hif
  clear hif
  have hl : ¬ (1048576 - (n : Int) < 0) := by omega
  go_enter Try.func3, Try.ntmps3
  go_wp2_with fail
  refine (szStroke_calls A n cap _ (by omega)).mono ?_
  rintro e w1 ⟨rfl, hb1⟩
  rw [HI.out]
  have HB1 := Lib.hid hb1
  have hc1 := (hb1.cell (p := ⟨w.heap.size, 0, none⟩) (by simp)).trans (show _ = some (Value.slice A n cap) by simp)
  clear hb1
  go_wp2_with fail
  refine (toStroke_calls A n cap pts _ HN.out hcap ((HP.out.below (below_alloc1 _ _)).below HB1.out)).mono ?_
  rintro e w2 ⟨g1, rfl, hg1a, hg1b, hpt1, hb2⟩
  have HPT1 := Lib.hid hpt1
  have HB2 := Lib.hid (HB1.out.trans (hb2.mono HB1.out.size))
  clear hpt1 hb2 hc1 hg1a
  go_wp2_with fail
  refine (specValid_calls g1 n pts _ HN.out hcap hg1b HPT1.out).mono ?_
  rintro e w3 ⟨rfl, hb3⟩
  have HB3 := Lib.hid (HB2.out.trans (hb3.mono HB2.out.size))
  clear hb3 HPT1 hg1b
  have hc3 := (HB3.out.cell (p := ⟨w.heap.size, 0, none⟩) (by simp)).trans (show _ = some (Value.slice A n cap) by simp)
  go_wp2_with fail
  refine (toStroke_calls A n cap pts _ HN.out hcap ((HP.out.below (below_alloc1 _ _)).below HB3.out)).mono ?_
  rintro e w4 ⟨g, rfl, hga, hgb, hpt, hb4⟩
  have HPT := Lib.hid hpt
  have HB4 := Lib.hid (HB3.out.trans (hb4.mono HB3.out.size))
  clear hpt hb4 hc3 hga
  go_wp2_with fail
  refine (implValid_calls g n pts _ HN.out hcap (by simp; omega) (HPT.out.below (below_alloc1 _ _) hgb)).mono ?_
  rintro e w5 ⟨rfl, hb5⟩
  have hk := keepS (w := w) (A := A) (cap := cap) (k := w4.heap.size) (n := n) (g := g) (pts := pts) hb5 ⟨by simp, (World.cell?_alloc_lt _ _ _ (show w.heap.size < w4.heap.size by have := HB4.out.size; simp at this; omega)).trans ((HB4.out.cell (p := ⟨w.heap.size, 0, none⟩) (by simp)).trans (by simp)),
    ⟨((below_alloc1 w _).trans (HB4.out.mono (below_alloc1 w _).size)).alloc (by have := HB4.out.size; simp at this; omega) _, by have := HB4.out.size; simp at this; simp; omega, by simp, by simp; omega, HPT.out.below (below_alloc1 _ _) hgb, ((HP.out.below (below_alloc1 _ _)).below HB4.out).below (below_alloc1 _ _)⟩⟩
  clear hb5 HB1 HB2 HB3 HB4 HPT hgb
  generalize vS pts = v
  have hkc := hk.1
  have hwc := hk.2.1
  cases v
  all_goals
    go_wp2
    first | (go_region_held3 (fun w' => w'.cell? ⟨w4.heap.size, 0, none⟩ = some (.slice (some ⟨g, 0, none⟩) n n) ∧ w'.cell? ⟨w.heap.size, 0, none⟩ = some (.slice A n cap) ∧ Inv w A pts g w4.heap.size w') (first | assumption | exact drewS hk | go_keep)
      (first | (go_at_call 16; refine (toStroke_calls A n cap pts _ HN.out hcap (by exact (keepArg (by assumption)))).mono ?_; rintro e w' ⟨g2, rfl, hga, hgb, hpt, hb⟩; have hk2 := keepS hb (by assumption)) | (go_at_call 18; refine (eqStroke_same g _ n pts _ HN.out hcap (by exact keepGz (by assumption)) (by assumption) (by exact keepRow (by assumption)) (by assumption)).mono ?_; rintro e w' ⟨rfl, hb⟩; have hk2 := keepS hb (by assumption)))) | fail
    rename_i hh
    have HF := Lib.hid (keepBelow hh)
    clear hh hk hkc hwc
    go_wp2
    go_ret
    exact ⟨rfl, HF.out⟩

theorem walk_big (A : Option Addr) (n cap : Nat) (w : World) (hn : n ≤ maxLen) (hcap : ¬ n ≤ 1048576) :
    Calls Try.prog 3 #[.agg #[.slice A n cap]] w fun e w' => e = .returned (.bool true) ∧ Below w.heap.size w w' := by
  have HI := Lib.hid (show (if n ≤ 1048576 then 1048576 - (n : Int) else -1) = -1 from if_neg hcap)
  go_enter Try.func3, Try.ntmps3
  go_wp2_with fail
  refine (szStroke_calls A n cap _ (by unfold maxLen at hn; omega)).mono ?_
  rintro e w1 ⟨rfl, hb1⟩
  rw [HI.out]
  have HB := Lib.hid ((below_alloc1 w _).trans (hb1.mono (below_alloc1 w _).size))
  clear hb1
  go_wp2
  go_ret
  exact ⟨rfl, HB.out⟩

theorem cell_some {w : World} {a : Addr} {v : Value} (h : w.cell? a = some v) : a.spot = none ∧ a.block < w.heap.size := by
  unfold World.cell? at h
  split at h
  · rename_i c e f hb
    refine ⟨?_, (Array.getElem?_eq_some_iff.1 hb).1⟩
    cases hs : a.spot with
    | none => rfl
    | some _ => simp [hs] at h
  · simp at h
theorem add_none {a : Addr} (h : a.spot = none) (n : Nat) : a.add n = ⟨a.block, a.off + n, none⟩ := by
  unfold Addr.add
  split
  · rename_i e; subst e; cases a; simp_all
  · rfl

theorem cells100 : Try.prog.cellsOf 100 = 3 := by kernel_rfl
theorem cells24 : Try.prog.cellsOf 24 = 1 := by kernel_rfl
theorem cells2 : Try.prog.cellsOf 2 = 1 := by kernel_rfl

set_option maxRecDepth 100000 in
/-- A slice of points that is read: its length, and its points. -/
theorem open_points {H : Type} {enc : TypeId × Value → H} {W : World} {fuel : Nat} {v : Value} {x : DataW H × List MemPlace} (h : DataW.trod enc Try.prog W 0 (fun _ => true) true fuel 22 [v] = some x) :
    ∃ (A : Option Addr) (n cap : Nat) (pts : List P3), v = .slice A n cap ∧ pts.length = n ∧ n ≤ maxLen ∧ ArgPts W A pts := by
  rcases Deep.open_slice Try.underlying22 h with ⟨hcs, _⟩ | ⟨a, len, cap, m, n', D, Pl, hcs, hb, hl, hm, hmm, hx, hi⟩
  · simp only [List.cons.injEq, and_true] at hcs
    exact ⟨none, 0, 0, [], hcs, rfl, Nat.zero_le _, fun i p hi => by simp at hi⟩
  · simp only [List.cons.injEq, and_true] at hcs
    have key : ∀ i, i < len → ∃ p : P3, W.cell? (a.add (i * 3)) = some (.int .i64 p.1) ∧ W.cell? ((a.add (i * 3)).add 1) = some (.int .i64 p.2.1) ∧ W.cell? ((a.add (i * 3)).add 2) = some (.int .i64 p.2.2) := by
      intro i hil
      obtain ⟨cs', hc, ht⟩ := hi i (by simp at hmm; omega)
      rw [cells100] at hc
      obtain ⟨xs, k, _, _, hcl, hxl, hat⟩ := DataW.trod_struct Try.underlying100 ht
      obtain ⟨_, hcl', hcell⟩ := World.cells?_some hc
      have hxl' : xs.length = 3 := hxl
      have fld : ∀ j, j < 3 → DataW.trod enc Try.prog W 0 (fun _ => true) true k 2 ((cs'.drop j).take 1) = xs[j]? → ∃ z : Int, cs'[j]? = some (.int .i64 z) := by
        intro j hj h
        rw [List.getElem?_eq_getElem (by omega)] at h
        obtain ⟨z, hz, _, _⟩ := DataW.trod_int Try.underlying2 h
        refine ⟨z, ?_⟩
        have := congrArg (·[0]?) hz
        simpa [List.getElem?_take, List.getElem?_drop] using this
      have f0 : DataW.trod enc Try.prog W 0 (fun _ => true) true k 2 ((cs'.drop 0).take (Try.prog.cellsOf 2)) = xs[0]? := hat 0 _ rfl
      have f1 : DataW.trod enc Try.prog W 0 (fun _ => true) true k 2 ((cs'.drop 1).take (Try.prog.cellsOf 2)) = xs[1]? := hat 1 _ rfl
      have f2 : DataW.trod enc Try.prog W 0 (fun _ => true) true k 2 ((cs'.drop 2).take (Try.prog.cellsOf 2)) = xs[2]? := hat 2 _ rfl
      rw [cells2] at f0 f1 f2
      obtain ⟨z0, e0⟩ := fld 0 (by omega) f0
      obtain ⟨z1, e1⟩ := fld 1 (by omega) f1
      obtain ⟨z2, e2⟩ := fld 2 (by omega) f2
      exact ⟨(z0, z1, z2), (hcell 0 (by omega)).trans e0, (hcell 1 (by omega)).trans e1, (hcell 2 (by omega)).trans e2⟩
    let f : Nat → P3 := fun i => if h : i < len then Classical.choose (key i h) else (0, 0, 0)
    refine ⟨some a, len, cap, (List.range len).map f, hcs, by simp, by omega, ?_⟩
    intro i p hip
    rw [List.getElem?_map] at hip
    obtain ⟨i', hi', rfl⟩ := Option.map_eq_some_iff.1 hip
    have hil : i < len := by
      have := (List.getElem?_eq_some_iff.1 hi').1
      simpa using this
    obtain rfl : i = i' := by
      rw [List.getElem?_range hil] at hi'
      injection hi'
    have hf : f i = Classical.choose (key i hil) := dif_pos hil
    obtain ⟨h0, h1, h2⟩ := Classical.choose_spec (key i hil)
    rw [← hf] at h0 h1 h2
    obtain ⟨q, hq, _, _⟩ := key 0 (by omega)
    have hsp : a.spot = none := by
      have := (cell_some hq).1
      simpa [Addr.add] using this
    have ha : a = ⟨a.block, a.off, none⟩ := by rw [← hsp]
    have hbl := (cell_some h0).2
    have e0 := add_none hsp (i * 3)
    rw [e0] at h0 h1 h2 hbl
    rw [add_none rfl] at h1 h2
    exact ⟨a.block, a.off, congrArg some ha, hbl, h0, h1, h2⟩

theorem reads : ∀ t ∈ Try.f3.params.toList, Try.prog.readableRec t = true ∧ t < Try.prog.types.size := by
  rw [Try.params3]
  intro t ht
  obtain rfl : t = 24 := by simpa using ht
  exact ⟨by kernel_rfl, of_decide_eq_true (by kernel_rfl)⟩

set_option maxRecDepth 100000 in
/-- A stroke that is read. -/
theorem open_stroke {H : Type} {enc : TypeId × Value → H} {W : World} {r : Reach} {b0 : Nat} {v : Value} {d : DataW H} {p : List MemPlace} (hv : Value.okWide Try.prog W r b0 24 v) (h : DataW.Trod enc Try.prog W 0 (fun _ => true) true 24 v d p) :
    ∃ (A : Option Addr) (n cap : Nat) (pts : List P3), v = .agg #[.slice A n cap] ∧ pts.length = n ∧ n ≤ maxLen ∧ ArgPts W A pts := by
  obtain ⟨cs, rfl, hsz⟩ := okWide_struct Try.underlying24 hv
  rw [cells24] at hsz
  obtain ⟨l⟩ := cs
  match l, hsz with
  | [c0], _ =>
    obtain ⟨fuel, hf⟩ := h
    obtain ⟨xs, k, _, _, _, hxl, hat⟩ := DataW.trod_struct Try.underlying24 hf
    have hxl' : xs.length = 1 := hxl
    have f0 := hat 0 _ rfl
    rw [List.getElem?_eq_getElem (by omega)] at f0
    have f1 : DataW.trod enc Try.prog W 0 (fun _ => true) true k 22 [c0] = some xs[0] := by
      have e : Try.prog.cellsOf 22 = 1 := by kernel_rfl
      simpa [Value.cells, e] using f0
    obtain ⟨A, n, cap, pts, rfl, h1, h2, h3⟩ := open_points f1
    exact ⟨A, n, cap, pts, rfl, h1, h2, h3⟩

set_option maxRecDepth 100000 in
theorem contract (H : Type) (enc : TypeId × Value → H) (W : World) (base : Nat) (args : Array Value) (ds gs : List (DataW H)) (before : List MemPlace)
    (hval : ∀ (j : Nat) t v, Try.f3.params[j]? = some t → args[j]? = some v → Value.okWide Try.prog W .any base t v)
    (hW : DataW.Whole enc Try.prog Try.f3.params.toList Rows.fnExactValidStrokeSpec.vars false W args.toList ds gs before) :
    Calls Try.prog 3 args W fun e W' => ∃ v, e = .returned v ∧ Rows.fnExactValidStrokeSpec.post enc Try.prog Try.f3 false true false false W args v W' := by
  have hW' := hW
  obtain ⟨p, q, hA0, hV, rfl, hfz, hnd⟩ := hW
  have hA : DataW.TrodAll enc Try.prog W 0 (fun _ => true) true Try.f3.params.toList args.toList ds p := hA0
  rw [Try.params3] at hA hval
  obtain ⟨v0, vs0, d0, ds0, p0, q0, hargs, rfl, rfl, h0, r0⟩ := trodAll_cons hA
  obtain ⟨rfl, rfl, rfl⟩ := trodAll_nil r0
  obtain rfl : args = #[v0] := by cases args; simp_all
  obtain ⟨rfl, rfl⟩ := trodVars_none hV
  obtain ⟨A, n, cap, pts, rfl, hn, hmx, hp⟩ := open_stroke (hval 0 24 v0 rfl rfl) h0
  have walk : Calls Try.prog 3 #[.agg #[.slice A n cap]] W fun e w' => e = .returned (.bool true) ∧ Below W.heap.size W w' := by
    by_cases hc : n ≤ 1048576
    · exact walk_small A n cap pts W hn hc hp
    · exact walk_big A n cap W hmx hc
  refine walk.mono fun e W' ⟨he, hg⟩ => ?_
  subst he
  exact ⟨_, rfl, law_post (by kernel_rfl) reads (by kernel_rfl) Try.underlying4 rfl hW' rfl rfl rfl hg⟩

set_option maxRecDepth 100000 in
theorem lifted (os : Os) (started : os.Started) (H : Type) (enc : TypeId × Value → H) :
    ReturnsInHanded {} Try.checked os 3 .any (Rows.fnExactValidStrokeSpec.pre6 enc Try.prog Try.f3 Rows.fnExactValidStrokeRow.domain false) (Rows.fnExactValidStrokeSpec.post enc Try.prog Try.f3 false true false false) := by
  refine returnsInHanded_of_change (C := Try.checked) own started (by kernel_rfl) Try.func3
    (ChangeSpec.witness6 (enc := enc) (C := Try.checked) false ⟨#[], #[.agg #[.slice none 0 0]], []⟩ 8 (by kernel_rfl) (by kernel_rfl) (by kernel_rfl) (by kernel_rfl)) ?_
  intro W base args ds gs before hval hW _ _
  exact contract H enc W base args ds gs before hval hW

theorem holds : Rows.FnExactValidStrokeSaid :=
  OpenClaim.holds_of_wide 3 Try.f3 rfl rfl rfl rfl rfl rfl rfl ⟨rfl, rfl, rfl, rfl, rfl⟩ rfl rfl rfl rfl rfl (by kernel_rfl) Try.func3 (by kernel_rfl)
    (of_decide_eq_true (by kernel_rfl)) (by unfold Func.isWrapper; first | (rw [if_pos (by decide +kernel)]; kernel_rfl) | (rw [if_neg (by decide +kernel)]; exact ⟨rfl, rfl⟩))
    (fun os started H enc _ => lifted os started H enc)
end Go.Proofs.Ytklfmlbokedbdaa.fnExactValidStroke
