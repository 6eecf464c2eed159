/-
  What prod.halves returns, where shorter products are right: as many words as both factors have, and they say the product. Conditions: the slices read as lists of words, of at most 10^6 words together.
-/
import Derived.Test.YtmoahgiklgicgaaProdRow
import Derived.Deep.RegionWith
namespace Go.Proofs.Ytmoahgiklgicgaa
set_option maxRecDepth 100000
open Go.RowKit
set_option linter.unusedVariables false
set_option linter.unusedSimpArgs false

theorem Below.undrew {w w' : World} (h : Below w.drew.heap.size w.drew w') : Below w.heap.size w w' := ⟨h.os, h.tape, h.output, h.size, h.block⟩
end Go.Proofs.Ytmoahgiklgicgaa
