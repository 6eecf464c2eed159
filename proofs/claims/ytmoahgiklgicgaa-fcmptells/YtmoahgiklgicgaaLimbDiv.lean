/-
  What limb.divHalf and limb.Div return: the quotient, rounded down, and the remainder. Conditions: the arguments are 64-bit words; divHalf: as its own comment says.
-/
import Derived.Test.YtmoahgiklgicgaaLimb
namespace Go.Proofs.Ytmoahgiklgicgaa
set_option maxRecDepth 100000
open Go.RowKit
set_option linter.unusedVariables false
set_option linter.unusedSimpArgs false

end Go.Proofs.Ytmoahgiklgicgaa
