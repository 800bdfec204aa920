/-
  Proved: for every text, the call of the law on ReadDecimal returns true and leaves its argument as it was.
  Conditions: three tables and two errors of the library hold what the program's text lays in them (tied by the card).
-/
import Derived.Test.YtpkofhchijpbeaaDoorNumber
import Derived.Test.YtpkofhchijpbeaaDoorShelfR
import Derived.Lib.ParseIntBTie
import Derived.Lib.AtoiErrMem
import Derived.Stop.LaidErr
import Derived.LaidLaws
import Derived.Deep.DeepWitnessRowRef
namespace Go.Proofs.YtpkofhchijpbeaaDoor.fnExactReadDecimal
open Go.ChangeShapes Go.WideShapes Go.ChangeAt Go.RowKit Go.Joins
open Go.ChangeMaps (open_string shut_string)
open Go.Proofs.YtpkofhchijpbeaaDoor.num
open Go.Proofs.YtpkofhchijpbeaaDoor.number
open Go.Proofs.YtpkofhchijpbeaaDoor.fnExactDecimal (own gPow gPowType cells56 cells41 tab32 tab64 laidCells)
set_option linter.unusedVariables false

theorem spec_calls (s : ByteArray) (w : World) (hs : s.size ≤ 1048576) :
    Calls Tryd.prog 10 #[.string s] w fun e w' => e = .returned (out s.data.toList) ∧ Below w.heap.size w w' := by
  go_enter Tryd.func10, Tryd.ntmps10
  go_wp2_with fail
  refine (number_calls s _ hs).mono ?_
  rintro e w1 ⟨rfl, hb⟩
  have HB := Lib.hid hb
  clear hb
  cases h : res s.data.toList with
  | none =>
    have HO := Lib.hid (out_none h)
    rw [out_none h]
    clear h
    go_wp2
    go_ret2
    exact ⟨by rw [HO.out]; rfl, HB.out⟩
  | some n =>
    have HO := Lib.hid (out_some h)
    rw [out_some h]
    clear h
    go_wp2
    go_ret2
    exact ⟨by rw [HO.out]; rfl, HB.out⟩

theorem trim_data (s : ByteArray) : Lib.trimPrefix s.data.toList (⟨#[45]⟩ : ByteArray).data.toList = rest s.data.toList := trim_rest _

/-- What the library's variables hold. -/
structure Libs (w : World) : Prop where
  tab : Lib.TabIs Tryd.prog w "internal/strconv.uint64pow10" .u64 Lib.pow10Tab
  syn : ∃ p, w.var? Tryd.prog "strconv.ErrSyntax" = some #[.iface 68 p]
  rng : ∃ p, w.var? Tryd.prog "strconv.ErrRange" = some #[.iface 68 p]
theorem gSyn : Tryd.prog.globalNamed "strconv.ErrSyntax" = some 2 := by kernel_rfl
theorem gSynType : (Tryd.prog.globals[2]?).map (·.type) = some 33 := by kernel_rfl
theorem gRng : Tryd.prog.globalNamed "strconv.ErrRange" = some 3 := by kernel_rfl
theorem gRngType : (Tryd.prog.globals[3]?).map (·.type) = some 33 := by kernel_rfl
theorem Libs.below {w w' : World} (h : Libs w) (hb : Below w.heap.size w w') : Libs w' := by
  obtain ⟨p, hp⟩ := h.syn
  obtain ⟨q, hq⟩ := h.rng
  exact ⟨tab_stays gPow h.tab hb (Nat.le_refl _), ⟨p, var_stays gSyn hp hb (Nat.le_refl _)⟩, ⟨q, var_stays gRng hq hb (Nat.le_refl _)⟩⟩

/-- How the library's reading ends, and what follows from it. -/
theorem ended (l : List UInt8) : (∃ v : Int, Lib.parseIntB 64 l = .ok v) ∨ (Lib.parseIntB 64 l = Lib.parseIntB 64 [] ∧ res l = none) ∨ (Lib.parseIntB 64 l = Lib.NumEnd.range ∧ res l = none) := by
  have hn : (∀ v : Int, Lib.parseIntB 64 l ≠ .ok v) → res l = none := fun h => res_none l fun n hn e => h n (by rw [← e]; exact parse_itoa n hn)
  cases h : Lib.parseIntB 64 l
  · exact .inl ⟨_, rfl⟩
  · exact .inr (.inl ⟨rfl, hn (by rw [h]; intro v e; cases e)⟩)
  · exact .inr (.inr ⟨rfl, hn (by rw [h]; intro v e; cases e)⟩)
theorem ended_ok {l : List UInt8} {v : Int} (h : Lib.parseIntB 64 l = .ok v) (h18 : (rest l).length ≤ 18) : (Lib.itoa v = l → res l = some v) ∧ (Lib.itoa v ≠ l → res l = none) := by
  constructor
  · intro e; exact res_of _ _ h18 e
  · intro e
    refine res_none l fun n hn e' => e ?_
    have := parse_itoa n hn
    rw [e', h] at this
    injection this with this
    rw [this, e']

set_option maxHeartbeats 2000000 in
set_option maxRecDepth 100000 in
theorem impl_calls (s : ByteArray) (w : World) (hs : s.size ≤ 1048576) (hl : Libs w) :
    Calls Tryd.prog 11 #[.string s] w fun e w' => e = .returned (out s.data.toList) ∧ Below w.heap.size w w' := by
  have HL := Lib.hid hl
  clear hl
  go_enter Tryd.func11, Tryd.ntmps11
  go_wp2_with fail
  refine (Tryd.strings_TrimPrefix s ⟨#[45]⟩ _).mono ?_
  rintro e w1 ⟨rfl, rfl⟩
  rw [trim_data]
  generalize eq : rest s.data.toList = q
  have HQ := Lib.hid eq
  clear eq
  by_cases h18 : q.length ≤ 18
  · have h18' : ¬ 18 < (q.length : Int) := by omega
    rcases ended s.data.toList with ⟨v, hv⟩ | ⟨he, hr⟩ | ⟨he, hr⟩
    · have bv : -9223372036854775808 ≤ v ∧ v ≤ 9223372036854775807 := by
        have h := Lib.parseIntB_bounds hv
        have e : (2 : Nat) ^ (64 - 1) = 9223372036854775808 := by decide
        rw [e] at h
        omega
      have HV := Lib.hid hv
      have HV2 := Lib.hid (ended_ok hv (by rw [HQ.out]; exact h18))
      have B0 := Lib.hid bv
      clear hv bv
      go_wp2_with fail
      refine (Tryd.strconv_ParseInt_10_at64_ok s (by omega) v HV.out _).mono ?_
      rintro e w2 ⟨rfl, hw⟩
      have hb : Below w1.heap.size w1 w2 := by
        rcases hw with rfl | ⟨t, rfl⟩
        · exact Below.refl _ _
        · exact Lib.bytesWorld_below _ _ _
      have HB := Lib.hid hb
      clear hb hw
      go_wp2_with fail
      refine (fnExactDecimal.impl_calls v B0.out.1 B0.out.2 _ (HL.out.below HB.out).tab).mono ?_
      rintro e w3 ⟨rfl, hb3⟩
      have HB3 := Lib.hid (HB.out.trans (hb3.mono HB.out.size))
      clear hb3
      by_cases e : Lib.itoa v = s.data.toList
      · have HO := Lib.hid (out_some (HV2.out.1 e))
        have es := (string_neq _ _).2 e
        clear e
        rw [es]
        go_wp2
        go_ret2
        exact ⟨by rw [HO.out]; rfl, HB3.out⟩
      · have HO := Lib.hid (out_none (HV2.out.2 e))
        have es : (Lib.itoa v == s.toList) = false := by rw [ByteArray.toList_eq]; simpa using e
        clear e
        go_wp2
        go_ret2
        exact ⟨by rw [HO.out]; rfl, HB3.out⟩
    · have HO := Lib.hid (out_none hr)
      have HE := Lib.hid he
      clear hr he
      obtain ⟨p, hp⟩ := HL.out.syn
      have HP := Lib.hid hp
      clear hp
      go_wp2_with fail
      refine (Tryd.strconv_ParseInt_10_at64_syntax_var s (by omega) HE.out 68 p _ HP.out).mono ?_
      rintro e w1 ⟨N, rfl, _, _, hb⟩
      have HB := Lib.hid hb
      clear hb
      go_wp2
      go_ret2
      exact ⟨by rw [HO.out]; rfl, HB.out⟩
    · have HO := Lib.hid (out_none hr)
      have HE := Lib.hid he
      clear hr he
      obtain ⟨p, hp⟩ := HL.out.rng
      have HP := Lib.hid hp
      clear hp
      go_wp2_with fail
      refine (Tryd.strconv_ParseInt_10_at64_range_var s (by omega) HE.out 68 p _ HP.out).mono ?_
      rintro e w1 ⟨N, rfl, _, _, hb⟩
      have HB := Lib.hid hb
      clear hb
      go_wp2
      go_ret2
      exact ⟨by rw [HO.out]; rfl, HB.out⟩
  · have HO := Lib.hid (out_none (res_long s.data.toList (by rw [HQ.out]; omega)))
    have h18' : 18 < (q.length : Int) := by omega
    go_wp2
    go_ret2
    exact ⟨by rw [HO.out]; rfl, Below.refl _ _⟩

theorem cells70 : Tryd.prog.cellsOf 70 = 1 := by kernel_rfl
theorem cells9 : Tryd.prog.cellsOf 9 = 1 := by kernel_rfl
theorem star : "*" ++ "errors.errorString" = "*errors.errorString" := by decide
theorem row68 (u : TypeId) (h : Tryd.prog.typeName? 3 u = some "*errors.errorString") : u = 68 :=
  typeName_ptr_named (nm := "errors.errorString") (by rw [star]; kernel_rfl) (by kernel_rfl) (by decide) u (by rw [star]; exact h)

/-- What the row's list gives. -/
theorem libs {W : World} (h : laidMetH Tryd.prog Rows.fnExactReadDecimalRow.laid W) : Libs W := by
  have h' : laidMet Tryd.prog Rows.fnExactReadDecimalRow.laid W := h
  have h3 := h'.tail.tail
  have h4 := h3.tail
  have h5 := h4.tail
  obtain ⟨a1, s1, hv1, -, -, -⟩ := laid_sentinel h4 gRng gRngType Tryd.underlying33 row68 Tryd.underlying68 Tryd.underlying70 rfl rfl Tryd.underlying9 cells70 cells9
  obtain ⟨a2, s2, hv2, -, -, -⟩ := laid_sentinel h5 gSyn gSynType Tryd.underlying33 row68 Tryd.underlying68 Tryd.underlying70 rfl rfl Tryd.underlying9 cells70 cells9
  exact ⟨Lib.tabIs_of_head (zs := Lib.pow10Tab) gPow gPowType Tryd.underlying56 Tryd.underlying41 cells41 cells56 (by exact h3), ⟨_, hv2⟩, ⟨_, hv1⟩⟩

set_option maxHeartbeats 1000000 in
theorem walk (s : ByteArray) (hs : s.size ≤ maxLen) (w : World) (hl : Libs w) :
    Calls Tryd.prog 5 #[.string s] w fun e w' => e = .returned (.bool true) ∧ Below w.heap.size w w' := by
  have hs' := hs
  unfold maxLen at hs'
  by_cases hb : (1048576 : Int) < s.size
  · clear hl
    go_enter Tryd.func5, Tryd.ntmps5
    go_wp2
    go_ret
    exact ⟨rfl, Below.refl _ _⟩
  · have HL := Lib.hid hl
    clear hl
    have hs2 : s.size ≤ 1048576 := by omega
    go_enter Tryd.func5, Tryd.ntmps5
    go_wp2_with fail
    refine (spec_calls s _ hs2).mono ?_
    rintro e w1 ⟨rfl, hb1⟩
    have HB := Lib.hid hb1
    clear hb1
    cases h : res s.data.toList with
    | none =>
      have HO := Lib.hid (out_none h)
      rw [out_none h]
      clear h
      go_wp2_with fail
      refine (impl_calls s _ hs2 (HL.out.below HB.out)).mono ?_
      rintro e w2 ⟨rfl, hb2⟩
      rw [HO.out]
      have HB2 := Lib.hid (HB.out.trans (hb2.mono HB.out.size))
      clear hb2
      go_wp2
      go_ret
      exact ⟨rfl, HB2.out⟩
    | some n =>
      have HO := Lib.hid (out_some h)
      rw [out_some h]
      clear h
      go_wp2_with fail
      refine (impl_calls s _ hs2 (HL.out.below HB.out)).mono ?_
      rintro e w2 ⟨rfl, hb2⟩
      rw [HO.out]
      have HB2 := Lib.hid (HB.out.trans (hb2.mono HB.out.size))
      clear hb2
      go_wp2
      go_ret
      exact ⟨rfl, HB2.out⟩

theorem reads0 : ∀ t ∈ Tryd.f5.params.toList, Tryd.prog.readableRec t = true ∧ t < Tryd.prog.types.size := by
  rw [Tryd.params5]
  intro t ht
  obtain rfl : t = 9 := by simpa using ht
  exact ⟨by kernel_rfl, of_decide_eq_true (by kernel_rfl)⟩

theorem contract (H : Type) (enc : TypeId × Value → H) (W : World) (base : Nat) (args : Array Value) (ds gs : List (DataW H)) (before : List MemPlace)
    (hval : ∀ (j : Nat) t v, Tryd.f5.params[j]? = some t → args[j]? = some v → Value.okWide Tryd.prog W .any base t v)
    (hW : DataW.Whole enc Tryd.prog Tryd.f5.params.toList Rows.fnExactReadDecimalSpec.vars false W args.toList ds gs before) (hL : laidMetH Tryd.prog Rows.fnExactReadDecimalRow.laid W) :
    Calls Tryd.prog 5 args W fun e W' => ∃ v, e = .returned v ∧ Rows.fnExactReadDecimalSpec.post enc Tryd.prog Tryd.f5 false true false false W args v W' := by
  have hW' := hW
  obtain ⟨p, q, hA0, hV, rfl, hfz, hnd⟩ := hW
  have hA : DataW.TrodAll enc Tryd.prog W 0 (fun _ => true) true Tryd.f5.params.toList args.toList ds p := hA0
  rw [Tryd.params5] at hA hval
  obtain ⟨v0, vs0, d0, ds0, p0, q0, hargs, rfl, rfl, h0, r0⟩ := trodAll_cons hA
  obtain ⟨rfl, rfl, rfl⟩ := trodAll_nil r0
  obtain rfl : args = #[v0] := by cases args; simp_all
  obtain ⟨rfl, rfl⟩ := trodVars_none hV
  obtain ⟨s, rfl, rfl, rfl, hs⟩ := open_string Tryd.underlying9 (hval 0 9 v0 rfl rfl) h0
  refine (walk s hs W (libs hL)).mono fun e W' ⟨he, hg⟩ => ?_
  subst he
  exact ⟨_, rfl, law_post (by kernel_rfl) reads0 (by kernel_rfl) Tryd.underlying4 (by kernel_rfl) hW' rfl rfl rfl hg⟩

abbrev synS : ByteArray := { data := #[105, 110, 118, 97, 108, 105, 100, 32, 115, 121, 110, 116, 97, 120] }
abbrev rngS : ByteArray := { data := #[118, 97, 108, 117, 101, 32, 111, 117, 116, 32, 111, 102, 32, 114, 97, 110, 103, 101] }
/-- So many blocks has the settled world. -/
noncomputable def low : Nat := (World.holding Tryd.prog default ⟨#[], #[], []⟩).heap.size
def errCell (b : Nat) : Obj → Obj
  | .cells _ t frozen => .cells #[.iface 68 (.pointer (some ⟨b, 0, none⟩))] t frozen
  | o => o
/-- A world for the witness: the tables and the two errors as their initialisers lay them. -/
noncomputable def laidWorld (os : Os) : World :=
  let w0 := World.holding Tryd.prog os ⟨#[.cells #[.string synS] 70, .cells #[.string rngS] 70], #[], []⟩
  { w0 with heap := ((((w0.heap.modify 1 (laidCells .u64 Lib.pow10Tab)).modify 4 (laidCells .u8 tab32)).modify 5 (laidCells .u8 tab64)).modify 2 (errCell low)).modify 3 (errCell (low + 1)) }
theorem laid_met (os : Os) : laidMet Tryd.prog Rows.fnExactReadDecimalRow.laid ((laidWorld os).forCall (fun _ _ => 0) ⟨#[], #[.string ⟨#[]⟩], []⟩).memory :=
  laidMet_of_run' 8 (by kernel_rfl) (by kernel_rfl)
theorem reads (os : Os) {H : Type} (enc : TypeId × Value → H) : ∃ places, DataW.whole enc Tryd.prog ((laidWorld os).forCall (fun _ _ => 0) ⟨#[], #[.string ⟨#[]⟩], []⟩).memory Tryd.f5.params.toList Rows.fnExactReadDecimalSpec.vars false #[Value.string ⟨#[]⟩].toList 8 = some ([.lit (.string [])], [], places) :=
  ⟨[], by kernel_rfl⟩

set_option maxRecDepth 100000 in
theorem lifted (os : Os) (started : os.Started) (H : Type) (enc : TypeId × Value → H) (F : Stop.Interp) :
    ReturnsInHanded {} Tryd.checked os 5 .any ((OpenSpec.ofChange Rows.fnExactReadDecimalSpec).preRow enc Tryd.prog Tryd.f5 Rows.fnExactReadDecimalRow.domain false Rows.fnExactReadDecimalRow.laid) (((OpenSpec.ofChange Rows.fnExactReadDecimalSpec).at F).post enc Tryd.prog Tryd.f5 false true false false) := by
  obtain ⟨places, hx⟩ := reads os enc
  refine returnsInHanded_of_row (C := Tryd.checked) (s := OpenSpec.ofChange Rows.fnExactReadDecimalSpec) own started (by kernel_rfl) Tryd.func5
    (witness_row_atRef (enc := enc) (C := Tryd.checked) false (laidWorld os) #[.string ⟨#[]⟩] rfl (by kernel_rfl) (by kernel_rfl) (by kernel_rfl)
      (OpenSpec.preRow_of_cond 8 hx (by kernel_rfl) (fun k hk => by cases hk) (by kernel_rfl) (laid_met os))) ?_
  intro W base args ds gs before hval hW _ _ _ hL _ _
  exact contract H enc W base args ds gs before hval hW hL

theorem said : Rows.FnExactReadDecimalSaid :=
  OpenClaim.holds_of_cond 5 Tryd.f5 rfl rfl rfl rfl rfl rfl rfl ⟨rfl, rfl, rfl, rfl, rfl⟩ rfl rfl rfl rfl rfl (by kernel_rfl) Tryd.func5 (by kernel_rfl)
    (of_decide_eq_true (by kernel_rfl)) (by unfold Func.isWrapper; first | (rw [if_pos (by decide +kernel)]; kernel_rfl) | (rw [if_neg (by decide +kernel)]; exact ⟨rfl, rfl⟩))
    (fun os started H enc _ F => by rw [OpenClaim.pre_eq_preRow]; exact lifted os started H enc F)

theorem plain (f : FuncId) (fn : Func) (hf : Tryd.pinned.checked.prog.funcNamed "loop.example/g00918/laws.FnExactReadDecimal" = some f) (hfn : Tryd.pinned.checked.prog.funcs[f]? = some fn) :
    true = Tryd.pinned.checked.prog.looks [] ∧ ∀ (j : Nat) t, fn.params[j]? = some t → Tryd.pinned.checked.prog.wantsStandIn t = false := by
  obtain rfl : f = 5 := Option.some.inj ((show Tryd.prog.funcNamed "loop.example/g00918/laws.FnExactReadDecimal" = some 5 by kernel_rfl).symm.trans hf) |>.symm
  obtain rfl : fn = Tryd.f5 := (Option.some.inj (Tryd.func5.symm.trans hfn)).symm
  refine ⟨by kernel_rfl, fun j t ht => ?_⟩
  rw [Tryd.params5] at ht
  obtain rfl : t = 9 := by simpa using Array.mem_of_getElem? ht
  exact (show Tryd.prog.wantsStandIn 9 = false by kernel_rfl)

theorem card : Rows.FnExactReadDecimalCardSaid :=
  Claim7.holds_tied_plain_at .later [] _ _ _ _ said (fun _ h => by cases h) (by kernel_rfl) (fun _ h => by cases h) fnExactReadDecimal_row_tie rfl ⟨rfl, rfl⟩ (by kernel_rfl) rfl plain (by kernel_rfl)
end Go.Proofs.YtpkofhchijpbeaaDoor.fnExactReadDecimal
