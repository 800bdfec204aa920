/-
  Proved: what the functions that add up the lengths of a stroke's segments return.
  Conditions: the points are in their range, and no more than 60.
-/
import Derived.Test.YtmlibfmbbkmeeaaDoorAll
import Derived.Deep.RegionHeld3
import Derived.Deep.AppendLies
namespace Go.Proofs.YtmlibfmbbkmeeaaDoor.lenS
open Go.ChangeShapes Go.WideShapes Go.ChangeAt Go.RowKit Go.Joins
open Go.Proofs.YtmlibfmbbkmeeaaDoor.core Go.Proofs.YtmlibfmbbkmeeaaDoor.geoM Go.Proofs.YtmlibfmbbkmeeaaDoor.stk Go.Proofs.YtmlibfmbbkmeeaaDoor.seg Go.Proofs.YtmlibfmbbkmeeaaDoor.side Go.Proofs.YtmlibfmbbkmeeaaDoor.all
set_option linter.unusedVariables false
set_option linter.unusedSimpArgs false

/-- The lengths of the first segments. -/
def lens (pts : Nat → P3) (k : Nat) : Nat := sumTo (fun i => len (pts i) (pts (i + 1))) k
theorem lens_succ (pts : Nat → P3) (k : Nat) : lens pts (k + 1) = lens pts k + len (pts k) (pts (k + 1)) := rfl
theorem lens_le {pts : Nat → P3} {n : Nat} (hr : ∀ i, i < n → Rg (pts i)) : ∀ k, k + 1 ≤ n → lens pts k ≤ k * 92700
  | 0, _ => Nat.zero_le _
  | k + 1, h => by
    rw [lens_succ]
    have := lens_le hr k (by omega)
    have := len_le (hr k (by omega)) (hr (k + 1) (by omega))
    omega

end Go.Proofs.YtmlibfmbbkmeeaaDoor.lenS
