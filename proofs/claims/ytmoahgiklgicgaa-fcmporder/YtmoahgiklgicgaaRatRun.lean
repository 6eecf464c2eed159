/-
  What rat's small functions do: isZero, signed, Make, Of, Sign, told by Lean's own Rat. Conditions: the slices read as lists of words, of at most 1000 words.
-/
import Derived.Test.YtmoahgiklgicgaaRatMem
import Derived.Deep.RegionHeld3
namespace Go.Proofs.Ytmoahgiklgicgaa
set_option maxRecDepth 100000
open Go.RowKit
set_option linter.unusedVariables false
set_option linter.unusedSimpArgs false

theorem of_rq (z : Int) : rq (decide (z < 0)) z.natAbs 1 = (z : Rat) := by
  unfold rq
  have e : sI (decide (z < 0)) z.natAbs = z := by unfold sI; by_cases h : z < 0 <;> simp [h] <;> omega
  rw [e]
  have := Rat.mkRat_self (z : Rat)
  simpa using this
end Go.Proofs.Ytmoahgiklgicgaa
