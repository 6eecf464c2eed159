/-
  What nat.Shl and nat.Shr return: the number times, or divided by, a power of two, normalized. Conditions: the slice reads as a list of words, of at most 10^8 words.
-/
import Derived.Test.YtmoahgiklgicgaaNatMake
import Derived.Deep.DeepCutAuto
import Derived.Deep.RegionWith
namespace Go.Proofs.Ytmoahgiklgicgaa
set_option maxRecDepth 100000
open Go.RowKit
set_option linter.unusedVariables false
set_option linter.unusedSimpArgs false

end Go.Proofs.Ytmoahgiklgicgaa
