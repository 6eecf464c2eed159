/-
  What prod.karatsuba and prod.product return: as many words as both factors have, and they say the product; by induction on the number of words. Conditions: the slices read as lists of words, of at most 10^6 words together.
-/
import Derived.Test.YtmoahgiklgicgaaProdHalves
namespace Go.Proofs.Ytmoahgiklgicgaa
set_option maxRecDepth 100000
open Go.RowKit
set_option linter.unusedVariables false
set_option linter.unusedSimpArgs false

/-- the slot holds a slice of n words that say v; of what was there in w nothing has turned -/
def Made (w : World) (n v : Nat) (s : Value) (wx : World) : Prop := ∃ A c p, s = .slice A n c ∧ Sl wx A n c p ∧ val p = v ∧ Below w.heap.size w wx
/-- .. a slice of at most K words that say v -/
def Some_ (w : World) (K v : Nat) (s : Value) (wx : World) : Prop := ∃ A n c p, s = .slice A n c ∧ n ≤ K ∧ Sl wx A n c p ∧ val p = v ∧ Below w.heap.size w wx

theorem spl_two {p1 p2 : List Int} {N k : Nat} (h1 : p1.length = k) (h2 : k + p2.length = N) : spl (spl (List.replicate N 0) 0 p1) k p2 = p1 ++ p2 := by
  subst h1
  have e1 : spl (List.replicate N 0) 0 p1 = p1 ++ List.replicate (N - p1.length) 0 := by unfold spl; simp
  rw [e1]
  unfold spl
  rw [List.take_append_of_le_length (Nat.le_refl _), List.take_of_length_le (Nat.le_refl _), List.drop_eq_nil_of_le (by simp; omega), List.append_nil]

end Go.Proofs.Ytmoahgiklgicgaa
