/-
  Proved: for all arguments, the call of the law FnExactDirectionsOf returns true and leaves its arguments and the table of directions as they were.
  Conditions: the table of directions holds what the program's text lays in it (tied by the card).
-/
import Derived.Test.YtmlibfmbbkmeeaaDoorWDirectionsOf
import Derived.Test.YtmlibfmbbkmeeaaDoorMDirectionsOf
import Derived.Test.YtmlibfmbbkmeeaaDoorPost
import Derived.Test.YtmlibfmbbkmeeaaDoorCards
import Derived.Test.YtmlibfmbbkmeeaaDoorTie
import Derived.Lib.LaidTab
import Derived.Lib.SmallJoins
import Derived.Deep.DeepHandedRow
namespace Go.Proofs.YtmlibfmbbkmeeaaDoor.wDirectionsOf
open Go.ChangeShapes Go.WideShapes Go.ChangeAt Go.RowKit Go.Joins
open Go.Proofs.YtmlibfmbbkmeeaaDoor.core Go.Proofs.YtmlibfmbbkmeeaaDoor.geoM
set_option linter.unusedVariables false
set_option linter.unusedSimpArgs false
theorem wf_i64' {n : Int} (h : (Lit.int .i64 n).wf = true) : inI64 n := bounds_i64 h
theorem own : ownKnob Tryd.prog.godebug = none := by kernel_rfl

theorem gName : Tryd.prog.globalNamed "loop.example/g00918/impl.sectors" = some 0 := by kernel_rfl
theorem gType : (Tryd.prog.globals[0]?).map (·.type) = some 63 := by kernel_rfl
theorem cells64 : Tryd.prog.cellsOf 63 = 9 := by kernel_rfl
theorem cells63 : Tryd.prog.cellsOf 62 = 3 := by kernel_rfl
theorem cells2 : Tryd.prog.cellsOf 2 = 1 := by kernel_rfl
theorem under64 : Tryd.prog.underlying 63 = some (.array 3 62) := by kernel_rfl
theorem under63 : Tryd.prog.underlying 62 = some (.array 3 2) := by kernel_rfl
def rows : List (List Int) := [[5, 6, 7], [4, 0, 0], [3, 2, 1]]

/-- What the row's list gives: the table's cells hold the directions. -/
theorem table {W : World} (h : laidMetH Tryd.prog Rows.fnExactDirectionsOfRow.laid W) (r c : Nat) (hr : r < 3) (hc : c < 3) :
    0 < W.heap.size ∧ W.cell? ⟨0, r * 3 + c, none⟩ = some (.int .i64 (sect r c)) := by
  have h' : laidMet Tryd.prog Rows.fnExactDirectionsOfRow.laid W := h
  obtain ⟨ps, ⟨g', t', cs, fuel, p, q, hg', ht', hvar, hd, _, _⟩, _⟩ := h'
  obtain rfl := Option.some.inj (gName.symm.trans hg')
  obtain rfl := Option.some.inj (gType.symm.trans ht')
  have hcell := World.var?_cell gName hvar (r * 3 + c)
  obtain ⟨xs, m, _, hx, hl, hxl, hat⟩ := DataW.trod_array under64 hd
  rw [cells64] at hl
  have h4 : xs.map (·.1) = rows.map fun z => (Lib.tabData .i64 z : DataW Unit) := by
    have h5 : DataW.agg (rows.map fun z => (Lib.tabData .i64 z : DataW Unit)) = DataW.agg (xs.map (·.1)) := congrArg Prod.fst hx
    injection h5 with h5
    exact h5.symm
  obtain ⟨z, hz, hzc⟩ : ∃ z, rows[r]? = some z ∧ z[c]? = some (sect r c) := by
    rcases (show r = 0 ∨ r = 1 ∨ r = 2 by omega) with rfl | rfl | rfl <;> rcases (show c = 0 ∨ c = 1 ∨ c = 2 by omega) with rfl | rfl | rfl <;> exact ⟨_, rfl, rfl⟩
  have h1 := hat r hr
  rw [cells63, List.getElem?_eq_getElem (by omega)] at h1
  have h3 : (xs.map (·.1))[r]? = some (Lib.tabData .i64 z) := by rw [h4, List.getElem?_map, hz]; rfl
  rw [List.getElem?_map, List.getElem?_eq_getElem (by omega)] at h3
  have h6 : xs[r].1 = Lib.tabData .i64 z := Option.some.inj h3
  have h7 : xs[r] = (Lib.tabData .i64 z, xs[r].2) := Prod.ext h6 rfl
  rw [h7] at h1
  have h8 := Lib.cells_of_tab under63 Tryd.underlying2 cells2 cells63 h1
  have h9 : cs[r * 3 + c]? = some (.int .i64 (sect r c)) := by
    have := congrArg (·[c]?) h8
    simpa [List.getElem?_take, List.getElem?_drop, hc, hzc] using this
  have hcs : W.cell? ⟨0, r * 3 + c, none⟩ = some (.int .i64 (sect r c)) := hcell.trans h9
  refine ⟨?_, hcs⟩
  rcases Nat.eq_zero_or_pos W.heap.size with h0 | h0
  · have : W.heap[0]? = none := Array.getElem?_eq_none (by omega)
    simp [World.cell?, this] at hcs
  · exact h0

theorem reads0 : ∀ t ∈ Tryd.f3.params.toList, Tryd.prog.readableRec t = true ∧ t < Tryd.prog.types.size := by
  rw [Tryd.params3]
  intro t ht
  obtain rfl : t = 24 := by simpa using ht
  exact ⟨by kernel_rfl, of_decide_eq_true (by kernel_rfl)⟩

theorem contract (H : Type) (enc : TypeId × Value → H) (W : World) (base : Nat) (args : Array Value) (ds gs : List (DataW H)) (before : List MemPlace)
    (hval : ∀ (j : Nat) t v, Tryd.f3.params[j]? = some t → args[j]? = some v → Value.okWide Tryd.prog W .any base t v)
    (hW : DataW.Whole enc Tryd.prog Tryd.f3.params.toList Rows.fnExactDirectionsOfSpec.vars false W args.toList ds gs before) (hL : laidMetH Tryd.prog Rows.fnExactDirectionsOfRow.laid W) :
    Calls Tryd.prog 3 args W fun e W' => ∃ v, e = .returned v ∧ Rows.fnExactDirectionsOfSpec.post enc Tryd.prog Tryd.f3 false true false false W args v W' := by
  have hW' := hW
  obtain ⟨p, q, hA0, hV, rfl, hfz, hnd⟩ := hW
  have hA : DataW.TrodAll enc Tryd.prog W 0 (fun _ => true) true Tryd.f3.params.toList args.toList ds p := hA0
  rw [Tryd.params3] at hA hval
  obtain ⟨v0, zs0, d0, ds0, p0, q0, hargs, rfl, rfl, h0, e0⟩ := trodAll_cons hA
  obtain ⟨rfl, rfl, rfl⟩ := trodAll_nil e0
  obtain rfl : args = #[v0] := by cases args; simp_all
  obtain ⟨vs0, g0, rfl, hr0, ht0⟩ := open_Stroke (hval 0 24 v0 rfl rfl) h0
  obtain ⟨g1, rfl⟩ : ∃ g1, gs = [g1] := by
    match gs, hV with
    | [g1], _ => exact ⟨g1, rfl⟩
    | [], hV => exact hV.elim
    | _ :: _ :: _, hV => obtain ⟨_, _, _, _, _, _, _, _, _, _, hV, _⟩ := hV; exact hV.elim
  refine (walk vs0 g0 W hr0 ht0 (table hL 0 0 (by omega) (by omega)).1 (fun r c hr hc => (table hL r c hr hc).2) (meat vs0 g0 ht0)).mono fun e W' ⟨he, hg⟩ => ?_
  subst he
  exact ⟨_, rfl, law_post (by kernel_rfl) reads0 (by kernel_rfl) Tryd.underlying4 (by kernel_rfl) hW' rfl rfl rfl hg⟩

/-- A world for the witness: the table (block 0) holding what its initialiser lays. -/
noncomputable def laidWorld (os : Os) : World :=
  { World.holding Tryd.prog os ⟨#[], #[], []⟩ with heap := (World.holding Tryd.prog os ⟨#[], #[], []⟩).heap.modify 0 fun
      | .cells _ t frozen => .cells (rows.flatten.map (Value.int .i64)).toArray t frozen
      | o => o }
set_option maxRecDepth 100000 in
theorem laid_met (os : Os) : laidMet Tryd.prog Rows.fnExactDirectionsOfRow.laid ((laidWorld os).forCall (fun _ _ => 0) ⟨#[], #[.agg #[.slice none 0 0]], []⟩).memory :=
  laidMet_of_run' 8 (by kernel_rfl) (by kernel_rfl)
set_option maxRecDepth 100000 in
theorem reads (os : Os) {H : Type} (enc : TypeId × Value → H) : ∃ places, DataW.whole enc Tryd.prog ((laidWorld os).forCall (fun _ _ => 0) ⟨#[], #[.agg #[.slice none 0 0]], []⟩).memory Tryd.f3.params.toList Rows.fnExactDirectionsOfSpec.vars false #[Value.agg #[.slice none 0 0]].toList 8 = some ([.agg [.nil]], [Rows.laid_loop_example_g00918_impl_sectors], places) :=
  ⟨MemPlace.row ⟨0, 0, none⟩ 9, by kernel_rfl⟩

set_option maxRecDepth 100000 in
theorem lifted (os : Os) (started : os.Started) (H : Type) (enc : TypeId × Value → H) (F : Stop.Interp) :
    ReturnsInHanded {} Tryd.checked os 3 .any ((OpenSpec.ofChange Rows.fnExactDirectionsOfSpec).preRow enc Tryd.prog Tryd.f3 Rows.fnExactDirectionsOfRow.domain false Rows.fnExactDirectionsOfRow.laid) (((OpenSpec.ofChange Rows.fnExactDirectionsOfSpec).at F).post enc Tryd.prog Tryd.f3 false true false false) := by
  obtain ⟨places, hx⟩ := reads os enc
  refine returnsInHanded_of_row (C := Tryd.checked) (s := OpenSpec.ofChange Rows.fnExactDirectionsOfSpec) own started (by kernel_rfl) Tryd.func3
    (witness_row_at (enc := enc) (C := Tryd.checked) false (laidWorld os) #[.agg #[.slice none 0 0]] rfl (by kernel_rfl) (by kernel_rfl) (by kernel_rfl)
      (OpenSpec.preRow_of_cond 8 hx (by kernel_rfl) (fun k hk => by cases hk) (by kernel_rfl) (laid_met os))) ?_
  intro W base args ds gs before hval hW _ _ _ hL _ _
  exact contract H enc W base args ds gs before hval hW hL

theorem said : Rows.FnExactDirectionsOfSaid :=
  OpenClaim.holds_of_cond 3 Tryd.f3 rfl rfl rfl rfl rfl rfl rfl ⟨rfl, rfl, rfl, rfl, rfl⟩ rfl rfl rfl rfl rfl (by kernel_rfl) Tryd.func3 (by kernel_rfl)
    (of_decide_eq_true (by kernel_rfl)) (by unfold Func.isWrapper; first | (rw [if_pos (by decide +kernel)]; kernel_rfl) | (rw [if_neg (by decide +kernel)]; exact ⟨rfl, rfl⟩))
    (fun os started H enc _ F => by rw [OpenClaim.pre_eq_preRow]; exact lifted os started H enc F)

theorem plain (f : FuncId) (fn : Func) (hf : Tryd.pinned.checked.prog.funcNamed "loop.example/g00918/laws.FnExactDirectionsOf" = some f) (hfn : Tryd.pinned.checked.prog.funcs[f]? = some fn) :
    false = Tryd.pinned.checked.prog.looks [] ∧ ∀ (j : Nat) t, fn.params[j]? = some t → Tryd.pinned.checked.prog.wantsStandIn t = false := by
  obtain rfl : f = 3 := Option.some.inj ((show Tryd.prog.funcNamed "loop.example/g00918/laws.FnExactDirectionsOf" = some 3 by kernel_rfl).symm.trans hf) |>.symm
  obtain rfl : fn = Tryd.f3 := (Option.some.inj (Tryd.func3.symm.trans hfn)).symm
  refine ⟨by kernel_rfl, fun j t ht => ?_⟩
  rw [Tryd.params3] at ht
  obtain rfl : t = 24 := by simpa using Array.mem_of_getElem? ht
  exact (show Tryd.prog.wantsStandIn 24 = false by kernel_rfl)

theorem card : Rows.FnExactDirectionsOfCardSaid :=
  Claim7.holds_tied_plain_at .later [] _ _ _ _ said (fun _ h => by cases h) (by kernel_rfl) (fun _ h => by cases h) fnExactDirectionsOf_row_tie rfl ⟨rfl, rfl⟩ (by kernel_rfl) rfl plain (by kernel_rfl)
end Go.Proofs.YtmlibfmbbkmeeaaDoor.wDirectionsOf
