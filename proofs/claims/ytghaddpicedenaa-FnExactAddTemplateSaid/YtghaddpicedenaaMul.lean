/-
  Proved: what the library's function that lays copies of a list one behind the other returns for a list of one number.
  Conditions: the number of copies is small.
-/
import Derived.Test.YtghaddpicedenaaDp
import Derived.Laws.Bits64b
import Derived.Laws.CopyOwn
import Derived.Deep.RegionLaw
namespace Go.Proofs.Ytghaddpicedenaa.dp
open Go.ChangeShapes Go.WideShapes Go.ChangeAt Go.RowKit Go.Joins
open Go.Proofs.Ytghaddpicedenaa.core Go.Proofs.Ytghaddpicedenaa.rown Go.Proofs.Ytghaddpicedenaa.stk Go.Proofs.Ytghaddpicedenaa.boxed Go.Proofs.Ytghaddpicedenaa.ft Go.Proofs.Ytghaddpicedenaa.seq Go.Proofs.Ytghaddpicedenaa.tab
set_option linter.unusedVariables false
set_option linter.unusedSimpArgs false
/-- A row of n numbers of which the first m are told. -/
def fill (v : Int) (n m : Nat) : List Value := List.replicate m (.int .i64 v) ++ List.replicate (n - m) (.int .i64 0)
theorem fill_len (v : Int) (n m : Nat) (h : m ≤ n) : (fill v n m).length = n := by simp [fill]; omega
theorem fill_more (v : Int) (n m d : Nat) (h : m + d ≤ n) : splice (fill v n m) m (List.replicate d (.int .i64 v)) = fill v n (m + d) := by
  unfold splice fill
  rw [List.length_replicate, List.take_append_of_le_length (by rw [List.length_replicate]; omega), List.take_of_length_le (by rw [List.length_replicate]; omega), List.drop_append, List.length_replicate, List.drop_eq_nil_of_le (by rw [List.length_replicate]; omega), List.nil_append, List.drop_replicate, ← List.append_assoc, List.replicate_append_replicate, show n - m - (m + d - m) = n - (m + d) by omega]
end Go.Proofs.Ytghaddpicedenaa.dp
