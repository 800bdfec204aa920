/-
  Proved: what the document's function BlendFeats returns.
  Conditions: none.
-/
import Derived.Test.YtgbelodobgmlbabBlend
namespace Go.Proofs.Ytgbelodobgmlbab.path
open Go.ChangeShapes Go.WideShapes Go.ChangeAt Go.RowKit Go.Joins
open Go.Proofs.Ytgbelodobgmlbab.core Go.Proofs.Ytgbelodobgmlbab.rown Go.Proofs.Ytgbelodobgmlbab.stk Go.Proofs.Ytgbelodobgmlbab.boxed Go.Proofs.Ytgbelodobgmlbab.ft Go.Proofs.Ytgbelodobgmlbab.seq Go.Proofs.Ytgbelodobgmlbab.near
set_option linter.unusedVariables false
set_option linter.unusedSimpArgs false
end Go.Proofs.Ytgbelodobgmlbab.path
