/-
  What nat.Trim returns: the number, normalized, in new memory. Conditions: the slice reads as a list of words, of at most 10^8 words.
-/
import Derived.Test.YtmoahgiklgicgaaNatMake
namespace Go.Proofs.Ytmoahgiklgicgaa
set_option maxRecDepth 100000
open Go.RowKit
set_option linter.unusedVariables false
set_option linter.unusedSimpArgs false

theorem sizeW : (Try.prog.info? 22).map (·.size) = some 1 := by kernel_rfl
theorem splice_all (ys cs : List Value) (h : cs.length = ys.length) : splice ys 0 cs = cs := by
  unfold splice; simp [h]

end Go.Proofs.Ytmoahgiklgicgaa
