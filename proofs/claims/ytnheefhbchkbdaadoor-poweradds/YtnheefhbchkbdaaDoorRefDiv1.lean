/-
  What the document's own quotients (package gradineref04) return, of single words and of any numbers. Conditions: the slices read as lists of words, of at most 1000 words; the divisor is not 0.
-/
import Derived.Test.YtnheefhbchkbdaaDoorRefDiv
namespace Go.Proofs.YtnheefhbchkbdaaDoor
set_option maxRecDepth 100000
open Go.RowKit
set_option linter.unusedVariables false
set_option linter.unusedSimpArgs false

end Go.Proofs.YtnheefhbchkbdaaDoor
