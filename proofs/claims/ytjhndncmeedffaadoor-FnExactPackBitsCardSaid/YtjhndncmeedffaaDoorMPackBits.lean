/-
  Proved: both functions pack bits into the same bytes.
  Conditions: none.
-/
import Derived.Test.YtjhndncmeedffaaDoorPackI
namespace Go.Proofs.YtjhndncmeedffaaDoor.wPackBits
open Go.ChangeShapes Go.WideShapes Go.ChangeAt Go.RowKit Go.Joins
open Go.Proofs.YtjhndncmeedffaaDoor.pack
theorem meat (a0 : ByteArray) :
    a0.size ≤ 1048576 → ∃ (r0 : ByteArray) (r1 : Int), (∀ (W : World), Calls Tryd.prog 7 #[.string a0] W fun e W' => e = .returned (.tuple #[.string r0, .int .i64 r1]) ∧ Below W.heap.size W W') ∧ (∀ (W : World), Calls Tryd.prog 8 #[.string a0] W fun e W' => e = .returned (.tuple #[.string r0, .int .i64 r1]) ∧ Below W.heap.size W W') := by
  intro hs
  by_cases h : a0.size ≤ 100000 ∧ AllBits a0 a0.size
  · exact ⟨_, _, fun W => spec_yes a0 hs h W, fun W => impl_yes a0 hs h W⟩
  · exact ⟨_, _, fun W => spec_no a0 hs h W, fun W => impl_no a0 hs h W⟩
end Go.Proofs.YtjhndncmeedffaaDoor.wPackBits
