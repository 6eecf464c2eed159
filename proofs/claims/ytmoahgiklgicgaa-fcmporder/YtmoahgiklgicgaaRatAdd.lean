/-
  What rat.addSigned, rat.Add and rat.Sub do, told by Lean's own Rat. Conditions: both numbers of at most N words, N at most 1000.
-/
import Derived.Test.YtmoahgiklgicgaaRatRun
namespace Go.Proofs.Ytmoahgiklgicgaa
set_option maxRecDepth 100000
open Go.RowKit
set_option linter.unusedVariables false
set_option linter.unusedSimpArgs false

theorem sI_abs (s : Bool) (p : Nat) (z : Int) (h : sI s p = z) : sI s z.natAbs = z ∧ z.natAbs = p := by
  have : z.natAbs = p := by rw [← h, sI_natAbs]
  exact ⟨by rw [this]; exact h, this⟩

end Go.Proofs.Ytmoahgiklgicgaa
