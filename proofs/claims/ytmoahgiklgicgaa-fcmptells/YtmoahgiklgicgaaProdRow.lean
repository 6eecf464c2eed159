/-
  What the functions of package prod that add into a list do: a row of a product, a sum. Conditions: the lists read as lists of words, of at most 10^8 words, in memory apart.
-/
import Derived.Test.YtmoahgiklgicgaaMem2
import Derived.Test.YtmoahgiklgicgaaProdMath
namespace Go.Proofs.Ytmoahgiklgicgaa
set_option maxRecDepth 100000
open Go.RowKit
set_option linter.unusedVariables false
set_option linter.unusedSimpArgs false

end Go.Proofs.Ytmoahgiklgicgaa
