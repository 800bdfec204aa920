/-
  Proved: for every two boxes, the call of the law on JoinBoxes returns true and leaves its arguments as they were.
  Conditions: none beyond the row's own.
-/
import Derived.Test.YtklfmlbokedbdaaJoinBoxes
namespace Go.Proofs.Ytklfmlbokedbdaa.fnExactJoinBoxes
open Go.ChangeShapes Go.WideShapes Go.ChangeAt Go.RowKit Go.Joins
open Go.Proofs.Ytklfmlbokedbdaa.boxes

theorem cells46 : Try.prog.cellsOf 46 = 4 := by kernel_rfl
theorem reads : ∀ t ∈ Try.f9.params.toList, Try.prog.readableRec t = true ∧ t < Try.prog.types.size := by
  rw [Try.params9]
  intro t ht
  obtain rfl : t = 46 := by simpa using ht
  exact ⟨by kernel_rfl, of_decide_eq_true (by kernel_rfl)⟩

set_option maxRecDepth 100000 in
theorem contract (H : Type) (enc : TypeId × Value → H) (W : World) (base : Nat) (args : Array Value) (ds gs : List (DataW H)) (before : List MemPlace)
    (hval : ∀ (j : Nat) t v, Try.f9.params[j]? = some t → args[j]? = some v → Value.okWide Try.prog W .any base t v)
    (hW : DataW.Whole enc Try.prog Try.f9.params.toList Rows.fnExactJoinBoxesSpec.vars false W args.toList ds gs before) :
    Calls Try.prog 9 args W fun e W' => ∃ v, e = .returned v ∧ Rows.fnExactJoinBoxesSpec.post enc Try.prog Try.f9 false true false false W args v W' := by
  have hW' := hW
  obtain ⟨p, q, hA0, hV, rfl, hfz, hnd⟩ := hW
  have hA : DataW.TrodAll enc Try.prog W 0 (fun _ => true) true Try.f9.params.toList args.toList ds p := hA0
  rw [Try.params9] at hA hval
  obtain ⟨v0, vs0, d0, ds0, p0, q0, hargs, rfl, rfl, h0, r0⟩ := trodAll_cons hA
  obtain ⟨v1, vs1, d1, ds1, p1, q1, rfl, rfl, rfl, h1, r1⟩ := trodAll_cons r0
  obtain ⟨rfl, rfl, rfl⟩ := trodAll_nil r1
  obtain rfl : args = #[v0, v1] := by cases args; simp_all
  obtain ⟨rfl, rfl⟩ := trodVars_none hV
  obtain ⟨c0, c1, c2, c3, y0, y1, y2, y3, m, rfl, rfl, rfl, hy0, hy1, hy2, hy3⟩ := open_agg4 Try.underlying46 (by kernel_rfl) cells46 (hval 0 46 v0 rfl rfl) h0
  obtain ⟨a, ha, rfl, _⟩ := DataW.trod_int Try.underlying2 hy0
  obtain ⟨b, hb, rfl, _⟩ := DataW.trod_int Try.underlying2 hy1
  obtain ⟨c, hc, rfl, _⟩ := DataW.trod_int Try.underlying2 hy2
  obtain ⟨d, hd, rfl, _⟩ := DataW.trod_int Try.underlying2 hy3
  simp only [List.cons.injEq, and_true] at ha hb hc hd
  subst ha hb hc hd
  obtain ⟨c0, c1, c2, c3, y0, y1, y2, y3, m, rfl, rfl, rfl, hy0, hy1, hy2, hy3⟩ := open_agg4 Try.underlying46 (by kernel_rfl) cells46 (hval 1 46 v1 rfl rfl) h1
  obtain ⟨a', ha, rfl, _⟩ := DataW.trod_int Try.underlying2 hy0
  obtain ⟨b', hb, rfl, _⟩ := DataW.trod_int Try.underlying2 hy1
  obtain ⟨c', hc, rfl, _⟩ := DataW.trod_int Try.underlying2 hy2
  obtain ⟨d', hd, rfl, _⟩ := DataW.trod_int Try.underlying2 hy3
  simp only [List.cons.injEq, and_true] at ha hb hc hd
  subst ha hb hc hd
  refine (walk a b c d a' b' c' d' W).mono fun e W' ⟨he, hg⟩ => ?_
  subst he
  exact ⟨_, rfl, law_post (by kernel_rfl) reads (by kernel_rfl) Try.underlying4 rfl hW' rfl rfl rfl hg⟩

set_option maxRecDepth 100000 in
theorem lifted (os : Os) (started : os.Started) (H : Type) (enc : TypeId × Value → H) :
    ReturnsInHanded {} Try.checked os 9 .any (Rows.fnExactJoinBoxesSpec.pre6 enc Try.prog Try.f9 Rows.fnExactJoinBoxesRow.domain false) (Rows.fnExactJoinBoxesSpec.post enc Try.prog Try.f9 false true false false) := by
  refine returnsInHanded_of_change (C := Try.checked) own started (by kernel_rfl) Try.func9
    (ChangeSpec.witness6 (enc := enc) (C := Try.checked) false ⟨#[], #[box 0 0 0 0, box 0 0 0 0], []⟩ 8 (by kernel_rfl) (by kernel_rfl) (by kernel_rfl) (by kernel_rfl)) ?_
  intro W base args ds gs before hval hW _ _
  exact contract H enc W base args ds gs before hval hW

theorem holds : Rows.FnExactJoinBoxesSaid :=
  OpenClaim.holds_of_wide 9 Try.f9 rfl rfl rfl rfl rfl rfl rfl ⟨rfl, rfl, rfl, rfl, rfl⟩ rfl rfl rfl rfl rfl (by kernel_rfl) Try.func9 (by kernel_rfl)
    (of_decide_eq_true (by kernel_rfl)) (by unfold Func.isWrapper; first | (rw [if_pos (by decide +kernel)]; kernel_rfl) | (rw [if_neg (by decide +kernel)]; exact ⟨rfl, rfl⟩))
    (fun os started H enc _ => lifted os started H enc)
end Go.Proofs.Ytklfmlbokedbdaa.fnExactJoinBoxes
