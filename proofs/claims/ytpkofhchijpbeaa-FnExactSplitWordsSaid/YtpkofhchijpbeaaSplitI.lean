/-
  Proved: the program's function that splits a text into its words gives the parts between blanks that are not empty (contracts of callees of the law on SplitWords).
  Conditions: none.
-/
import Derived.Test.YtpkofhchijpbeaaWords
import Derived.Shelf.Strings.FieldsFuncAny
namespace Go.Proofs.Ytpkofhchijpbeaa.words
open Go.ChangeShapes Go.WideShapes Go.ChangeAt Go.RowKit Go.Joins Go.Shelf
open Go.Proofs.Ytpkofhchijpbeaa.strs
set_option linter.unusedVariables false

def ren : Go.Shelf.Ren := ⟨fun | 229 => 20 | n => n, fun | 31 => 23 | 40 => 28 | 152 => 33 | 154 => 35 | n => n, fun n => n⟩
theorem lays : Go.Proofs.Lays.n229 Try.prog ren := {
  mixed := by kernel_rfl
  f229 := Try.func20.trans (congrArg some (by kernel_rfl))
  t0 := Try.underlying0
  a0 := Try.isAgg0
  z0 := Try.sizeOf0
  v0 := Try.zeroValue0
  t3 := Try.underlying3
  a3 := Try.isAgg3
  z3 := Try.sizeOf3
  v3 := Try.zeroValue3
  t4 := Try.underlying4
  a4 := Try.isAgg4
  z4 := Try.sizeOf4
  v4 := Try.zeroValue4
  t9 := Try.underlying9
  a9 := Try.isAgg9
  z9 := Try.sizeOf9
  v9 := Try.zeroValue9
  t21 := Try.underlying21
  a21 := Try.isAgg21
  z21 := Try.sizeOf21
  v21 := Try.zeroValue21
  t31 := Try.underlying23
  a31 := Try.isAgg23
  z31 := Try.sizeOf23
  v31 := Try.zeroValue23
  t40 := Try.underlying28
  a40 := Try.isAgg28
  z40 := Try.sizeOf28
  v40 := Try.zeroValue28
  t152 := Try.underlying33
  a152 := Try.isAgg33
  z152 := Try.sizeOf33
  v152 := Try.zeroValue33
  t154 := Try.underlying35
  a154 := Try.isAgg35
  z154 := Try.sizeOf35
  v154 := Try.zeroValue35 }

set_option maxHeartbeats 1000000 in
theorem isBlank_calls (x : Nat) (w : World) (hx : x ≤ 1114111) : Calls Try.prog 21 #[.int .i32 (x : Int)] w fun e w' => e = .returned (.bool (blank x)) ∧ w = w' := by
  by_cases h : x = 32
  · subst h
    go_enter Try.func21, Try.ntmps21
    go_wp2
    go_ret
    exact ⟨rfl, by trivial⟩
  · have h' : ¬ ((x : Int) = 32) := by omega
    have hb : blank x = false := decide_eq_false h
    have hb2 : ((x : Int) == 32) = false := beq_eq_false_iff_ne.2 h'
    rw [hb]
    go_enter Try.func21, Try.ntmps21
    go_wp2
    go_ret
    exact ⟨rfl, by trivial⟩

set_option maxHeartbeats 1000000 in
theorem implSplit_calls (s : ByteArray) (w : World) (hs : s.size ≤ 1048576) :
    Calls Try.prog 9 #[.string s] w fun e w' => ∃ g c, e = .returned (.slice (some ⟨g, 0, none⟩) (wordsOf s).length c) ∧ w'.ownsRow w.heap.size 9 1 (.slice (some ⟨g, 0, none⟩) (wordsOf s).length c) (wordsOf s).length ((wordsOf s).map Value.string) ∧ Below w.heap.size w w' := by
  rw [wordsOf_eq]
  go_enter Try.func9, Try.ntmps9
  go_wp2_with fail
  refine (Any.strings_FieldsFunc_runes lays 21 #[] (fun args w => by kernel_rfl) blank s _ (by omega) (fun W x hx hb => (isBlank_calls x W hx).mono fun e w' ⟨he, hw⟩ => ⟨he, 0, by rw [← hw]; rfl⟩) (by kernel_rfl) (by kernel_rfl)).mono ?_
  rintro e w1 ⟨A, rfl, hA, hown, hb⟩
  have HO := Lib.hid hown
  have HB := Lib.hid hb
  clear hown hb
  go_wp2
  go_ret
  exact ⟨A, _, rfl, HO.out, HB.out⟩
end Go.Proofs.Ytpkofhchijpbeaa.words
