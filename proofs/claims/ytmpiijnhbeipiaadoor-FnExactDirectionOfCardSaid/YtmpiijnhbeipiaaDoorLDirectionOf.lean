/-
  Proved: for all arguments, the call of the law FnExactDirectionOf returns true and leaves its arguments and the table of directions as they were.
  Conditions: the table of directions holds what the program's text lays in it (tied by the card).
-/
import Derived.Test.YtmpiijnhbeipiaaDoorDirI
import Derived.Test.YtmpiijnhbeipiaaDoorPost
import Derived.Test.YtmpiijnhbeipiaaDoorCards
import Derived.Test.YtmpiijnhbeipiaaDoorTie
import Derived.Lib.LaidTab
import Derived.Lib.SmallJoins
import Derived.Deep.DeepHandedRow
namespace Go.Proofs.YtmpiijnhbeipiaaDoor.wDirectionOf
open Go.ChangeShapes Go.WideShapes Go.ChangeAt Go.RowKit Go.Joins
open Go.Proofs.YtmpiijnhbeipiaaDoor.core Go.Proofs.YtmpiijnhbeipiaaDoor.dir Go.Proofs.YtmpiijnhbeipiaaDoor.geoM
set_option linter.unusedVariables false
set_option linter.unusedSimpArgs false
theorem wf_i64' {n : Int} (h : (Lit.int .i64 n).wf = true) : inI64 n := bounds_i64 h
theorem own : ownKnob Tryd.prog.godebug = none := by kernel_rfl
set_option maxRecDepth 100000 in
set_option maxHeartbeats 2000000 in
theorem walk0 (dx dy : Int) (hix : inI64 dx) (hiy : inI64 dy) (w : World) (hz : 0 < w.heap.size) (ht : ∀ r c : Nat, r < 3 → c < 3 → w.cell? ⟨0, r * 3 + c, none⟩ = some (.int .i64 (sect r c))) :
    Calls Tryd.prog 3 #[.int .i64 dx, .int .i64 dy] w fun e w' => e = .returned (.bool true) ∧ Below w.heap.size w w' := by
  have S := Lib.hid (fun W => spec_law dx dy W)
  have I := Lib.hid (fun W => impl_law dx dy hix hiy W)
  have HT := Lib.hid ht
  have HZ := Lib.hid hz
  clear hix hiy ht hz
  generalize dirR dx dy = z at *
  generalize dirE dx dy = y at *
  go_enter Tryd.func3, Tryd.ntmps3
  go_wp2_with (first
    | (go_at_call 7; (with_reducible refine (S.out _).mono ?_); rintro e w1 ⟨rfl, hb⟩; have B1 := Lib.hid hb; have I1 := Lib.hid (I.out w1 (Nat.lt_of_lt_of_le HZ.out hb.size) (fun r c hr hc => (hb.cell (p := ⟨0, _, none⟩) HZ.out).trans (HT.out r c hr hc))); clear hb)
    | (go_at_call 8; (refine I1.out.mono ?_); rintro e w2 ⟨rfl, hb⟩; have B2 := Lib.hid (B1.out.trans (hb.mono B1.out.size)); clear hb))
  go_ret
  exact ⟨rfl, B2.out⟩

theorem gName : Tryd.prog.globalNamed "loop.example/g00918/impl.sectors" = some 0 := by kernel_rfl
theorem gType : (Tryd.prog.globals[0]?).map (·.type) = some 64 := by kernel_rfl
theorem cells64 : Tryd.prog.cellsOf 64 = 9 := by kernel_rfl
theorem cells63 : Tryd.prog.cellsOf 63 = 3 := by kernel_rfl
theorem cells2 : Tryd.prog.cellsOf 2 = 1 := by kernel_rfl
theorem under64 : Tryd.prog.underlying 64 = some (.array 3 63) := by kernel_rfl
theorem under63 : Tryd.prog.underlying 63 = some (.array 3 2) := by kernel_rfl
def rows : List (List Int) := [[5, 6, 7], [4, 0, 0], [3, 2, 1]]

/-- What the row's list gives: the table's cells hold the directions. -/
theorem table {W : World} (h : laidMetH Tryd.prog Rows.fnExactDirectionOfRow.laid W) (r c : Nat) (hr : r < 3) (hc : c < 3) :
    0 < W.heap.size ∧ W.cell? ⟨0, r * 3 + c, none⟩ = some (.int .i64 (sect r c)) := by
  have h' : laidMet Tryd.prog Rows.fnExactDirectionOfRow.laid W := h
  obtain ⟨ps, ⟨g', t', cs, fuel, p, q, hg', ht', hvar, hd, _, _⟩, _⟩ := h'
  obtain rfl := Option.some.inj (gName.symm.trans hg')
  obtain rfl := Option.some.inj (gType.symm.trans ht')
  have hcell := World.var?_cell gName hvar (r * 3 + c)
  obtain ⟨xs, m, _, hx, hl, hxl, hat⟩ := DataW.trod_array under64 hd
  rw [cells64] at hl
  have h4 : xs.map (·.1) = rows.map fun z => (Lib.tabData .i64 z : DataW Unit) := by
    have h5 : DataW.agg (rows.map fun z => (Lib.tabData .i64 z : DataW Unit)) = DataW.agg (xs.map (·.1)) := congrArg Prod.fst hx
    injection h5 with h5
    exact h5.symm
  obtain ⟨z, hz, hzc⟩ : ∃ z, rows[r]? = some z ∧ z[c]? = some (sect r c) := by
    rcases (show r = 0 ∨ r = 1 ∨ r = 2 by omega) with rfl | rfl | rfl <;> rcases (show c = 0 ∨ c = 1 ∨ c = 2 by omega) with rfl | rfl | rfl <;> exact ⟨_, rfl, rfl⟩
  have h1 := hat r hr
  rw [cells63, List.getElem?_eq_getElem (by omega)] at h1
  have h3 : (xs.map (·.1))[r]? = some (Lib.tabData .i64 z) := by rw [h4, List.getElem?_map, hz]; rfl
  rw [List.getElem?_map, List.getElem?_eq_getElem (by omega)] at h3
  have h6 : xs[r].1 = Lib.tabData .i64 z := Option.some.inj h3
  have h7 : xs[r] = (Lib.tabData .i64 z, xs[r].2) := Prod.ext h6 rfl
  rw [h7] at h1
  have h8 := Lib.cells_of_tab under63 Tryd.underlying2 cells2 cells63 h1
  have h9 : cs[r * 3 + c]? = some (.int .i64 (sect r c)) := by
    have := congrArg (·[c]?) h8
    simpa [List.getElem?_take, List.getElem?_drop, hc, hzc] using this
  have hcs : W.cell? ⟨0, r * 3 + c, none⟩ = some (.int .i64 (sect r c)) := hcell.trans h9
  refine ⟨?_, hcs⟩
  rcases Nat.eq_zero_or_pos W.heap.size with h0 | h0
  · have : W.heap[0]? = none := Array.getElem?_eq_none (by omega)
    simp [World.cell?, this] at hcs
  · exact h0

theorem walk (a0 a1 : Int) (h0 : inI64 a0) (h1 : inI64 a1) (W : World) (hL : laidMetH Tryd.prog Rows.fnExactDirectionOfRow.laid W) :
    Calls Tryd.prog 3 #[.int .i64 a0, .int .i64 a1] W fun e w' => e = .returned (.bool true) ∧ Below W.heap.size W w' :=
  walk0 a0 a1 h0 h1 W (table hL 0 0 (by omega) (by omega)).1 fun r c hr hc => (table hL r c hr hc).2

theorem reads0 : ∀ t ∈ Tryd.f3.params.toList, Tryd.prog.readableRec t = true ∧ t < Tryd.prog.types.size := by
  rw [Tryd.params3]
  intro t ht
  obtain rfl : t = 2 := by simpa using ht
  exact ⟨by kernel_rfl, of_decide_eq_true (by kernel_rfl)⟩

theorem contract (H : Type) (enc : TypeId × Value → H) (W : World) (base : Nat) (args : Array Value) (ds gs : List (DataW H)) (before : List MemPlace)
    (hval : ∀ (j : Nat) t v, Tryd.f3.params[j]? = some t → args[j]? = some v → Value.okWide Tryd.prog W .any base t v)
    (hW : DataW.Whole enc Tryd.prog Tryd.f3.params.toList Rows.fnExactDirectionOfSpec.vars false W args.toList ds gs before) (hL : laidMetH Tryd.prog Rows.fnExactDirectionOfRow.laid W) :
    Calls Tryd.prog 3 args W fun e W' => ∃ v, e = .returned v ∧ Rows.fnExactDirectionOfSpec.post enc Tryd.prog Tryd.f3 false true false false W args v W' := by
  have hW' := hW
  obtain ⟨p, q, hA0, hV, rfl, hfz, hnd⟩ := hW
  have hA : DataW.TrodAll enc Tryd.prog W 0 (fun _ => true) true Tryd.f3.params.toList args.toList ds p := hA0
  rw [Tryd.params3] at hA hval
  obtain ⟨v0, zs0, d0, ds0, p0, q0, hargs, rfl, rfl, h0, e0⟩ := trodAll_cons hA
  obtain ⟨v1, zs1, d1, ds1, p1, q1, rfl, rfl, rfl, h1, e1⟩ := trodAll_cons e0
  obtain ⟨rfl, rfl, rfl⟩ := trodAll_nil e1
  obtain rfl : args = #[v0, v1] := by cases args; simp_all
  obtain ⟨a0, rfl, rfl, rfl, w0⟩ := open_int Tryd.underlying2 (hval 0 2 v0 rfl rfl) h0
  obtain ⟨a1, rfl, rfl, rfl, w1⟩ := open_int Tryd.underlying2 (hval 1 2 v1 rfl rfl) h1
  obtain ⟨g1, rfl⟩ : ∃ g1, gs = [g1] := by
    match gs, hV with
    | [g1], _ => exact ⟨g1, rfl⟩
    | [], hV => exact hV.elim
    | _ :: _ :: _, hV => obtain ⟨_, _, _, _, _, _, _, _, _, _, hV, _⟩ := hV; exact hV.elim
  refine (walk a0 a1 (wf_i64' w0) (wf_i64' w1) W hL).mono fun e W' ⟨he, hg⟩ => ?_
  subst he
  exact ⟨_, rfl, law_post (by kernel_rfl) reads0 (by kernel_rfl) Tryd.underlying4 (by kernel_rfl) hW' rfl rfl rfl hg⟩

/-- A world for the witness: the table (block 0) holding what its initialiser lays. -/
noncomputable def laidWorld (os : Os) : World :=
  { World.holding Tryd.prog os ⟨#[], #[], []⟩ with heap := (World.holding Tryd.prog os ⟨#[], #[], []⟩).heap.modify 0 fun
      | .cells _ t frozen => .cells (rows.flatten.map (Value.int .i64)).toArray t frozen
      | o => o }
set_option maxRecDepth 100000 in
theorem laid_met (os : Os) : laidMet Tryd.prog Rows.fnExactDirectionOfRow.laid ((laidWorld os).forCall (fun _ _ => 0) ⟨#[], #[.int .i64 0, .int .i64 0], []⟩).memory :=
  laidMet_of_run' 8 (by kernel_rfl) (by kernel_rfl)
set_option maxRecDepth 100000 in
theorem reads (os : Os) {H : Type} (enc : TypeId × Value → H) : ∃ places, DataW.whole enc Tryd.prog ((laidWorld os).forCall (fun _ _ => 0) ⟨#[], #[.int .i64 0, .int .i64 0], []⟩).memory Tryd.f3.params.toList Rows.fnExactDirectionOfSpec.vars false #[Value.int .i64 0, Value.int .i64 0].toList 8 = some ([.lit (.int .i64 0), .lit (.int .i64 0)], [Rows.laid_loop_example_g00918_impl_sectors], places) :=
  ⟨MemPlace.row ⟨0, 0, none⟩ 9, by kernel_rfl⟩

set_option maxRecDepth 100000 in
theorem lifted (os : Os) (started : os.Started) (H : Type) (enc : TypeId × Value → H) (F : Stop.Interp) :
    ReturnsInHanded {} Tryd.checked os 3 .any ((OpenSpec.ofChange Rows.fnExactDirectionOfSpec).preRow enc Tryd.prog Tryd.f3 Rows.fnExactDirectionOfRow.domain false Rows.fnExactDirectionOfRow.laid) (((OpenSpec.ofChange Rows.fnExactDirectionOfSpec).at F).post enc Tryd.prog Tryd.f3 false true false false) := by
  obtain ⟨places, hx⟩ := reads os enc
  refine returnsInHanded_of_row (C := Tryd.checked) (s := OpenSpec.ofChange Rows.fnExactDirectionOfSpec) own started (by kernel_rfl) Tryd.func3
    (witness_row_at (enc := enc) (C := Tryd.checked) false (laidWorld os) #[.int .i64 0, .int .i64 0] rfl (by kernel_rfl) (by kernel_rfl) (by kernel_rfl)
      (OpenSpec.preRow_of_cond 8 hx (by kernel_rfl) (fun k hk => by cases hk) (by kernel_rfl) (laid_met os))) ?_
  intro W base args ds gs before hval hW _ _ _ hL _ _
  exact contract H enc W base args ds gs before hval hW hL

theorem said : Rows.FnExactDirectionOfSaid :=
  OpenClaim.holds_of_cond 3 Tryd.f3 rfl rfl rfl rfl rfl rfl rfl ⟨rfl, rfl, rfl, rfl, rfl⟩ rfl rfl rfl rfl rfl (by kernel_rfl) Tryd.func3 (by kernel_rfl)
    (of_decide_eq_true (by kernel_rfl)) (by unfold Func.isWrapper; first | (rw [if_pos (by decide +kernel)]; kernel_rfl) | (rw [if_neg (by decide +kernel)]; exact ⟨rfl, rfl⟩))
    (fun os started H enc _ F => by rw [OpenClaim.pre_eq_preRow]; exact lifted os started H enc F)

theorem plain (f : FuncId) (fn : Func) (hf : Tryd.pinned.checked.prog.funcNamed "loop.example/g00918/laws.FnExactDirectionOf" = some f) (hfn : Tryd.pinned.checked.prog.funcs[f]? = some fn) :
    false = Tryd.pinned.checked.prog.looks [] ∧ ∀ (j : Nat) t, fn.params[j]? = some t → Tryd.pinned.checked.prog.wantsStandIn t = false := by
  obtain rfl : f = 3 := Option.some.inj ((show Tryd.prog.funcNamed "loop.example/g00918/laws.FnExactDirectionOf" = some 3 by kernel_rfl).symm.trans hf) |>.symm
  obtain rfl : fn = Tryd.f3 := (Option.some.inj (Tryd.func3.symm.trans hfn)).symm
  refine ⟨by kernel_rfl, fun j t ht => ?_⟩
  rw [Tryd.params3] at ht
  obtain rfl : t = 2 := by simpa using Array.mem_of_getElem? ht
  exact (show Tryd.prog.wantsStandIn 2 = false by kernel_rfl)

theorem card : Rows.FnExactDirectionOfCardSaid :=
  Claim7.holds_tied_plain_at .later [] _ _ _ _ said (fun _ h => by cases h) (by kernel_rfl) (fun _ h => by cases h) fnExactDirectionOf_row_tie rfl ⟨rfl, rfl⟩ (by kernel_rfl) rfl plain (by kernel_rfl)
end Go.Proofs.YtmpiijnhbeipiaaDoor.wDirectionOf
