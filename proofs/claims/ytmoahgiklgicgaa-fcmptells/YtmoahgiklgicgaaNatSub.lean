/-
  What nat.Sub returns: the difference, normalized, and true; nothing and false if the first number is less. Conditions: the slices read as lists of words, of at most 10^8 words.
-/
import Derived.Test.YtmoahgiklgicgaaNatMake
import Derived.Deep.RegionWith
namespace Go.Proofs.Ytmoahgiklgicgaa
set_option maxRecDepth 100000
open Go.RowKit
set_option linter.unusedVariables false
set_option linter.unusedSimpArgs false

/-- a call that returns a slice that reads as xs, and a bool, and turns nothing that was there -/
def RetSlB (xs : List Int) (b : Bool) (w : World) (e : Ending) (w' : World) : Prop := ∃ A n c, e = .returned (.tuple #[.slice A n c, .bool b]) ∧ Sl w' A n c xs ∧ Below w.heap.size w w'

/-- .. in new memory -/
def RetSlBN (xs : List Int) (b : Bool) (w : World) (e : Ending) (w' : World) : Prop := ∃ A n c, e = .returned (.tuple #[.slice A n c, .bool b]) ∧ Sl w' A n c xs ∧ Below w.heap.size w w' ∧ New w A

end Go.Proofs.Ytmoahgiklgicgaa
